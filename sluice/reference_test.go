package sluice_test

import (
	"math/rand"
	"testing"

	"sluice/api"
	"sluice/sluice"
)

// TestP6AnyProgram holds Run against a machine that the test writes out once more, on programs that Check finds right.
func TestP6AnyProgram(t *testing.T) {
	r := rand.New(rand.NewSource(6))
	reckon, holds := reckonings(), comparisons()
	ran := map[uint16]int{}
	for range 100000 {
		l := rightProgram(r)
		b := make([]byte, 64)
		r.Read(b)
		ref := reference{l: l, record: b, cells: map[uint32]uint64{}, ran: ran, reckon: reckon, holds: holds}
		want, wantSteps := ref.run()
		if v, steps, e := sluice.Run(l, string(b)); v != want || steps != wantSteps || e != api.OK {
			t.Fatalf("P6: %+v on %x: Run = %#x, %d, %d, want %#x, %d", l, b, v, steps, e, want, wantSteps)
		}
	}
	for _, code := range codes() {
		if ran[code] < 1000 {
			t.Errorf("code %#x was run %d times only", code, ran[code])
		}
	}
}

// rightProgram: all cells are set, then any instructions with fields that are right.
func rightProgram(r *rand.Rand) insns {
	l := insns{withK(api.LoadXK, r.Uint32()>>r.Intn(32))}
	for c := range uint32(16) {
		l = append(l, withK(api.StoreX, c))
	}
	named, n := codes(), 1+r.Intn(25)
	for i := range n {
		behind := n - i
		in := api.Insn{Code: named[r.Intn(len(named))], Jt: uint8(r.Intn(min(behind, 4))), Jf: uint8(r.Intn(min(behind, 4))), K: r.Uint32() >> r.Intn(32)}
		switch in.Code {
		case api.RetK, api.RetA:
			if r.Intn(4) > 0 { // else most programs would end too soon
				in.Code = api.LoadAt
				in.K = uint32(r.Intn(16) * 4)
			}
		case api.LoadAt:
			in.K = uint32(r.Intn(16) * 4)
		case api.LoadCell, api.LoadX, api.Store, api.StoreX:
			in.K = uint32(r.Intn(16))
		case api.Div, api.Mod:
			in.K = max(in.K, 1)
		case api.Shl, api.Shr:
			in.K = uint32(r.Intn(32))
		case api.Jump:
			in.K = uint32(r.Intn(min(behind, 4)))
		}
		l = append(l, in)
	}
	return append(l, end)
}

// reference: a machine whose numbers have 64 bits, and are cut to 32 behind each step.
type reference struct {
	l      insns
	record []byte
	a, x   uint64
	cells  map[uint32]uint64
	ran    map[uint16]int
	reckon map[uint16]func(a, n uint64) uint64
	holds  map[uint16]func(a, n int64) bool
}

func (m *reference) run() (uint32, int) {
	for i, steps := 0, 1; ; i, steps = i+1, steps+1 {
		in := m.l[i]
		m.ran[in.Code]++
		n := uint64(in.K)
		if in.Code&8 > 0 {
			n = m.x
		}
		switch base := in.Code &^ 8; base {
		case 0x06:
			return in.K, steps
		case 0x16:
			return uint32(m.a), steps
		case 0x05:
			i += int(in.K)
		case 0x15, 0x25, 0x35, 0x45:
			if m.holds[base](int64(m.a), int64(n)) {
				i += int(in.Jt)
			} else {
				i += int(in.Jf)
			}
		case 0x34, 0x94:
			if n == 0 {
				return 0, steps
			}
			m.a = m.reckon[base](m.a, n)
		case 0x04, 0x14, 0x24, 0x44, 0x54, 0x64, 0x74, 0xa4:
			m.a = m.reckon[base](m.a, n) % (1 << 32)
		default:
			m.move(in)
		}
	}
}

func (m *reference) move(in api.Insn) {
	switch in.Code {
	case 0x00:
		m.a = uint64(in.K)
	case 0x01:
		m.x = uint64(in.K)
	case 0x20:
		m.a = 0
		for i := range uint32(4) {
			m.a = m.a*256 + uint64(m.record[in.K+3-i])
		}
	case 0x60:
		m.a = m.cells[in.K]
	case 0x61:
		m.x = m.cells[in.K]
	case 0x80:
		m.a = 64
	case 0x81:
		m.x = 64
	case 0x02:
		m.cells[in.K] = m.a
	case 0x03:
		m.cells[in.K] = m.x
	case 0x07:
		m.x = m.a
	case 0x87:
		m.a = m.x
	case 0x84:
		m.a = (1<<32 - m.a) % (1 << 32)
	}
}
