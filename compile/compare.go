package compile

import (
	"math"

	"sluice/api"
)

// test makes instructions that go on behind themselves if the test holds, and else pass over so many more.
// Less holds where AtLeast does not, AtMost where More does not: there the two ways change places.
func test(t api.Test, over int) []api.Insn {
	switch t.How {
	case api.Unequal:
		return compare(t, api.IfEqual, over, 0)
	case api.Less:
		return compare(t, api.IfLeast, over, 0)
	case api.AtMost:
		return compare(t, api.IfMore, over, 0)
	case api.More:
		return compare(t, api.IfMore, 0, over)
	case api.AtLeast:
		return compare(t, api.IfLeast, 0, over)
	}
	return compare(t, api.IfEqual, 0, over) // Equal, and Masked, whose mask is laid on by what loads
}

// compare asks by code how an argument is to a test's value, and passes over so many if it is so, or not so.
// The upper words tell, unless they are equal: only then the lower ones count.
func compare(t api.Test, code uint16, yes, no int) []api.Insn {
	upper, lower := halves(t)
	l := ahead(nil, branch(code, lower.value, yes, no))
	l = ahead(l, lower.load()...)
	behind := len(l)
	l = ahead(l, branch(api.IfEqual, upper.value, 0, behind+no))
	if code != api.IfEqual { // else it is all one which of two unequal ones is more
		l = ahead(l, branch(api.IfMore, upper.value, behind+1+yes, 0))
	}
	return ahead(l, upper.load()...)
}

// half is one word of a test: where the argument has it, which bits of it count, what it is compared with.
type half struct{ at, mask, value uint32 }

func halves(t api.Test) (upper, lower half) {
	mask := uint64(math.MaxUint64)
	if t.How == api.Masked {
		mask = t.Mask
	}
	at := argsAt + 2*wordSize*uint32(t.Arg)
	lower = half{at, uint32(mask), uint32(t.Value)}
	upper = half{at + wordSize, uint32(mask >> 32), uint32(t.Value >> 32)}
	return upper, lower
}

// load brings the bits that count into A.
func (h half) load() []api.Insn {
	if h.mask == math.MaxUint32 {
		return ahead(nil, load(h.at))
	}
	return ahead(nil, load(h.at), api.Insn{Code: api.And, K: h.mask})
}
