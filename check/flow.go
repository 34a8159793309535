package check

import "sluice/api"

// known is what is known of an instruction: what holds on each way that leads to it.
// Its zero value stands for one to which no way was found.
type known struct {
	reached bool
	cells   uint16 // bit c: cell c is set
}

// join adds a way to those that lead to an instruction: a cell stays set only if it is set on all of them.
func (k known) join(way known) known {
	if k == (known{}) {
		return way
	}
	return known{reached: true, cells: k.cells & way.cells}
}

func (k known) has(cell uint32) bool {
	return k.cells>>cell&1 == 1
}

func (k known) with(cell uint32) known {
	k.cells |= 1 << cell
	return k
}

// unset finds the first load from a cell that may be unset (P5). It leans on what was checked ahead:
// no way leads behind the last instruction, which is an ending one, and no cell is numbered too high.
// Once through is enough: all ways go forward, so those to an instruction are known when its turn comes.
func unset(l []api.Insn) (api.Errno, int) {
	facts := make([]known, len(l))
	facts[0] = known{reached: true}
instructions:
	for i, in := range l {
		here, next := facts[i], i+1
		if here == (known{}) {
			continue instructions
		}
		switch kindOf(in.Code) {
		case ending:
			continue instructions
		case jump:
			next += int(in.K)
		case test:
			for _, over := range [...]uint8{in.Jt, in.Jf} {
				to := next + int(over)
				facts[to] = facts[to].join(here)
			}
			continue instructions
		case loadCell:
			if !here.has(in.K) {
				return api.ErrUnset, i
			}
		case storeCell:
			here = here.with(in.K)
		}
		facts[next] = facts[next].join(here)
	}
	return api.OK, 0
}
