// Package check: whether instructions are a program that can be run without any further check (P4, P5).
package check

import "sluice/api"

const wordSize, wordBits = 4, 32

// Program tells what is wrong with instructions, and at which one; OK 0 if nothing is.
func Program(l []api.Insn) (api.Errno, int) {
	if len(l) == 0 || len(l) > api.MaxInsns {
		return api.ErrLength, 0
	}
	last := len(l) - 1
	for i, in := range l {
		if e := fault(in, uint32(last-i)); e != api.OK {
			return e, i
		}
	}
	if kindOf(l[last].Code) != ending {
		return api.ErrEnd, last
	}
	return unset(l)
}

// fault tells what is wrong with one instruction that has so many others behind it.
func fault(in api.Insn, behind uint32) api.Errno {
	switch kindOf(in.Code) {
	case unknown:
		return api.ErrCode
	case jump:
		return errorIf(in.K >= behind, api.ErrJump)
	case test:
		return errorIf(uint32(max(in.Jt, in.Jf)) >= behind, api.ErrJump)
	case loadRecord:
		return errorIf(in.K%wordSize != 0 || in.K >= api.RecordSize, api.ErrLoad)
	case loadCell, storeCell:
		return errorIf(in.K >= api.Cells, api.ErrCell)
	case divideByK:
		return errorIf(in.K == 0, api.ErrNought)
	case shiftByK:
		return errorIf(in.K >= wordBits, api.ErrShift)
	}
	return api.OK
}

func errorIf(wrong bool, e api.Errno) api.Errno {
	if wrong {
		return e
	}
	return api.OK
}
