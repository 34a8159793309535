package sluice_test

import (
	"slices"
	"testing"

	"sluice/api"
	"sluice/sluice"
)

type insns = []api.Insn

func withK(code uint16, k uint32) api.Insn { return api.Insn{Code: code, K: k} }

func ifTest(code uint16, jt, jf uint8) api.Insn { return api.Insn{Code: code, Jt: jt, Jf: jf} }

func returns(n int) insns { return slices.Repeat(insns{withK(api.RetK, 0)}, n) }

// checkCase: what Check answers of a list; name says what the case is about.
type checkCase struct {
	name string
	l    insns
	e    api.Errno
	at   int
}

func runCheckCases(t *testing.T, promise string, cases []checkCase) {
	t.Helper()
	for _, c := range cases {
		if e, at := sluice.Check(c.l); e != c.e || at != c.at {
			t.Errorf("%s: %s: Check = %d, %d, want %d, %d", promise, c.name, e, at, c.e, c.at)
		}
	}
}

// codes: every code that the document names, written out apart from the program's own list.
func codes() []uint16 {
	l := []uint16{0x00, 0x01, 0x20, 0x60, 0x61, 0x80, 0x81, 0x02, 0x03, 0x07, 0x87, 0x84, 0x05, 0x06, 0x16}
	for _, c := range []uint16{0x04, 0x14, 0x24, 0x34, 0x44, 0x54, 0x64, 0x74, 0x94, 0xa4, 0x15, 0x25, 0x35, 0x45} {
		l = append(l, c, c+8)
	}
	return l
}
