package machine

import "sluice/api"

const wordSize, wordBits = 4, 32

// registers: what a program reckons with. Loads, moves and reckoning that need nothing else are its methods.
type registers struct {
	a, x  uint32
	cells [api.Cells]uint32
}

// operand is what an instruction reckons or compares with. Only those that may do so by X ask for it.
func (r *registers) operand(in api.Insn) uint32 {
	if in.Code&api.ByX != 0 {
		return r.x
	}
	return in.K
}

// distance is how far to shift: the modulo is for X, a K is less in any checked program.
func (r *registers) distance(in api.Insn) uint32 { return r.operand(in) % wordBits }

func (r *registers) loadK(in api.Insn) { r.a = in.K }

func (r *registers) loadXK(in api.Insn) { r.x = in.K }

func (r *registers) loadCell(in api.Insn) { r.a = r.cells[in.K] }

func (r *registers) loadX(in api.Insn) { r.x = r.cells[in.K] }

func (r *registers) loadLen(in api.Insn) { r.a = api.RecordSize }

func (r *registers) loadXLen(in api.Insn) { r.x = api.RecordSize }

func (r *registers) store(in api.Insn) { r.cells[in.K] = r.a }

func (r *registers) storeX(in api.Insn) { r.cells[in.K] = r.x }

func (r *registers) toX(in api.Insn) { r.x = r.a }

func (r *registers) fromX(in api.Insn) { r.a = r.x }

func (r *registers) add(in api.Insn) { r.a += r.operand(in) }

func (r *registers) sub(in api.Insn) { r.a -= r.operand(in) }

func (r *registers) mul(in api.Insn) { r.a *= r.operand(in) }

func (r *registers) or(in api.Insn) { r.a |= r.operand(in) }

func (r *registers) and(in api.Insn) { r.a &= r.operand(in) }

func (r *registers) xor(in api.Insn) { r.a ^= r.operand(in) }

func (r *registers) shl(in api.Insn) { r.a <<= r.distance(in) }

func (r *registers) shr(in api.Insn) { r.a >>= r.distance(in) }

func (r *registers) neg(in api.Insn) { r.a = -r.a }
