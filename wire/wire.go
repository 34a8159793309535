// Package wire: instructions as bytes, and bytes as instructions (P3).
package wire

import "sluice/api"

const insnSize = 8

// Decode reads instructions from bytes; what the instructions are does not matter here.
func Decode(b []byte) ([]api.Insn, api.Errno) {
	n := len(b) / insnSize
	if len(b)%insnSize != 0 || n == 0 || n > api.MaxInsns {
		return nil, api.ErrLength
	}
	l := make([]api.Insn, n)
	for i := range l {
		l[i] = readInsn(b[i*insnSize:])
	}
	return l, api.OK
}

// Encode writes instructions as bytes. It knows no bound: a list that Decode would refuse is written too.
func Encode(l []api.Insn) []byte {
	b := make([]byte, 0, insnSize*len(l))
	for _, in := range l {
		b = append(b,
			byte(in.Code), byte(in.Code>>8), in.Jt, in.Jf,
			byte(in.K), byte(in.K>>8), byte(in.K>>16), byte(in.K>>24))
	}
	return b
}

func readInsn(b []byte) api.Insn {
	return api.Insn{
		Code: uint16(b[0]) | uint16(b[1])<<8,
		Jt:   b[2],
		Jf:   b[3],
		K:    uint32(b[4]) | uint32(b[5])<<8 | uint32(b[6])<<16 | uint32(b[7])<<24,
	}
}
