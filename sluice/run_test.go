package sluice_test

import (
	"slices"
	"strings"
	"testing"

	"sluice/api"
	"sluice/sluice"
)

const most = 1<<32 - 1

// runCase: what Run answers of a program; name says what the case is about.
type runCase struct {
	name    string
	l       insns
	verdict uint32
	steps   int
}

func runRunCases(t *testing.T, promise, record string, cases []runCase) {
	t.Helper()
	for _, c := range cases {
		if v, steps, e := sluice.Run(c.l, record); v != c.verdict || steps != c.steps || e != api.OK {
			t.Errorf("%s: %s: Run = %#x, %d, %d, want %#x, %d", promise, c.name, v, steps, e, c.verdict, c.steps)
		}
	}
}

// numbered: a record of 64 bytes that are all different.
func numbered() string {
	b := make([]byte, 64)
	for i := range b {
		b[i] = byte(0xf0 - 3*i)
	}
	return string(b)
}

// edgeNumbers: where a reckoning of 32 bits may go wrong.
func edgeNumbers() []uint32 {
	return []uint32{0, 1, 2, 3, 5, 10, 31, 32, 33, 63, 64, 65, 0xffff, 0x10000, 0x10001, 0x55555555, 0xaaaaaaaa, 1<<31 - 1, 1 << 31, 1<<31 + 1, most - 1, most}
}

func TestP6Examples(t *testing.T) {
	allow := withK(api.RetK, api.Allow)
	number := insns{withK(api.LoadAt, 0), {Code: api.IfEqual, Jt: 0, Jf: 1, K: 39}, withK(api.RetK, 0), allow}
	runRunCases(t, "P6", "\x27"+strings.Repeat("\x00", 63), []runCase{
		{"RetK alone", insns{allow}, 0x7fff0000, 1},
		{"the number 39", number, 0, 3},
		{"RetK with a Jump 0 ahead", insns{withK(api.Jump, 0), allow}, 0x7fff0000, 2},
		{"what is not reached", insns{withK(api.RetK, 0), withK(api.LoadCell, 3), end}, 0, 1},
		{"a division by X", insns{withK(api.LoadK, 7), withK(api.Div+8, 0), end}, 0, 2},
	})
	for i := range 64 {
		b := make([]byte, 64)
		b[0], b[i] = 39, b[i]+1
		if i == 0 {
			b[0] = 38
		}
		want := uint32(0x7fff0000)
		if i > 3 {
			want = 0
		}
		runRunCases(t, "P6", string(b), []runCase{{"another byte in the record", number, want, 3}})
	}
}

func TestP6Loads(t *testing.T) {
	record := numbered()
	runRunCases(t, "P6", record, []runCase{
		{"A is 0 at first", insns{end}, 0, 1},
		{"X is 0 at first", insns{withK(api.LoadK, 7), withK(api.FromX, 0), end}, 0, 3},
		{"LoadLen", insns{withK(api.LoadLen, 5), end}, 64, 2},
		{"LoadLen leaves X", insns{withK(api.LoadLen, 5), withK(api.FromX, 0), end}, 0, 3},
		{"LoadXLen", insns{withK(api.LoadXLen, 5), withK(api.FromX, 0), end}, 64, 3},
		{"LoadXLen leaves A", insns{withK(api.LoadXLen, 5), end}, 0, 2},
		{"ToX", insns{withK(api.LoadK, 9), withK(api.ToX, 0), withK(api.LoadK, 1), withK(api.FromX, 0), end}, 9, 5},
		{"ToX leaves A", insns{withK(api.LoadK, 9), withK(api.ToX, 3), end}, 9, 3},
		{"FromX leaves X", insns{withK(api.LoadXK, 9), withK(api.FromX, 3), withK(api.LoadK, 1), withK(api.FromX, 0), end}, 9, 5},
	})
	for _, k := range edgeNumbers() {
		runRunCases(t, "P6", record, []runCase{
			{"LoadK", insns{withK(api.LoadK, k), end}, k, 2},
			{"LoadK leaves X", insns{withK(api.LoadK, k), withK(api.FromX, 0), end}, 0, 3},
			{"LoadXK", insns{withK(api.LoadXK, k), withK(api.FromX, 0), end}, k, 3},
			{"LoadXK leaves A", insns{withK(api.LoadXK, k), end}, 0, 2},
		})
	}
	for k := uint32(0); k < 64; k += 4 {
		word := uint32(record[k]) + 0x100*uint32(record[k+1]) + 0x10000*uint32(record[k+2]) + 0x1000000*uint32(record[k+3])
		runRunCases(t, "P6", record, []runCase{
			{"LoadAt", insns{withK(api.LoadAt, k), end}, word, 2},
			{"LoadAt leaves X", insns{withK(api.LoadAt, k), withK(api.FromX, 0), end}, 0, 3},
		})
	}
}

// TestP6Cells: all cells hold something, then one is stored into again: that one changes, the others stay.
func TestP6Cells(t *testing.T) {
	for changed := range uint32(16) {
		for asked := range uint32(16) {
			var fill insns
			for c := range uint32(16) {
				fill = append(fill, withK(api.LoadK, 100+c), withK(api.Store, c))
			}
			want := 100 + asked
			if asked == changed {
				want = 7
			}
			byA := append(slices.Clone(fill), withK(api.LoadXK, 8), withK(api.LoadK, 7), withK(api.Store, changed))
			byX := append(slices.Clone(fill), withK(api.LoadXK, 7), withK(api.LoadK, 8), withK(api.StoreX, changed))
			for _, l := range []insns{byA, byX} {
				runRunCases(t, "P6", numbered(), []runCase{
					{"into A", append(slices.Clone(l), withK(api.LoadCell, asked), end), want, 37},
					{"into X", append(slices.Clone(l), withK(api.LoadX, asked), withK(api.FromX, 0), end), want, 38},
				})
			}
			runRunCases(t, "P6", numbered(), []runCase{
				{"LoadCell leaves X", append(slices.Clone(byA), withK(api.LoadCell, asked), withK(api.FromX, 0), end), 8, 38},
				{"LoadX leaves A", append(slices.Clone(byA), withK(api.LoadX, asked), end), 7, 37},
				{"Store leaves A", append(slices.Clone(byA), end), 7, 36},
				{"StoreX leaves X", append(slices.Clone(byX), withK(api.FromX, 0), end), 7, 37},
			})
		}
	}
}

// reckonings: what A with n gives, reckoned in 64 bits apart from the program; at 32 bits it goes round.
func reckonings() map[uint16]func(a, n uint64) uint64 {
	return map[uint16]func(a, n uint64) uint64{
		0x04: func(a, n uint64) uint64 { return a + n },
		0x14: func(a, n uint64) uint64 { return a + 1<<32 - n },
		0x24: func(a, n uint64) uint64 { return a * n },
		0x34: func(a, n uint64) uint64 { return a / n },
		0x44: func(a, n uint64) uint64 { return a | n },
		0x54: func(a, n uint64) uint64 { return a & n },
		0x64: func(a, n uint64) uint64 { return a << (n & 31) },
		0x74: func(a, n uint64) uint64 { return a >> (n & 31) },
		0x94: func(a, n uint64) uint64 { return a - a/n*n },
		0xa4: func(a, n uint64) uint64 { return (a | n) - (a & n) },
	}
}

func TestP6Reckoning(t *testing.T) {
	for code, reckon := range reckonings() {
		divides, shifts := code == 0x34 || code == 0x94, code == 0x64 || code == 0x74
		for _, a := range edgeNumbers() {
			for _, n := range edgeNumbers() {
				if divides && n == 0 {
					continue
				}
				want := uint32(reckon(uint64(a), uint64(n)))
				load := insns{withK(api.LoadK, a), withK(api.LoadXK, n)}
				runRunCases(t, "P6", numbered(), []runCase{
					{"by X", append(slices.Clone(load), withK(code+8, 77), end), want, 4},
					{"by X, which stays", append(slices.Clone(load), withK(code+8, 77), withK(api.FromX, 0), end), n, 5},
				})
				if shifts && n > 31 {
					continue
				}
				load[1].K = 77
				runRunCases(t, "P6", numbered(), []runCase{
					{"by K", append(slices.Clone(load), withK(code, n), end), want, 4},
					{"by K, X stays", append(slices.Clone(load), withK(code, n), withK(api.FromX, 0), end), 77, 5},
				})
			}
		}
	}
}

func TestP6Neg(t *testing.T) {
	for _, a := range edgeNumbers() {
		want := uint32(1<<32 - uint64(a))
		runRunCases(t, "P6", numbered(), []runCase{
			{"Neg", insns{withK(api.LoadK, a), withK(api.LoadXK, 5), withK(api.Neg, 9), end}, want, 4},
			{"Neg leaves X", insns{withK(api.LoadK, a), withK(api.LoadXK, 5), withK(api.Neg, 9), withK(api.FromX, 0), end}, 5, 5},
		})
	}
}

func TestP6GoesRound(t *testing.T) {
	runRunCases(t, "P6", numbered(), []runCase{
		{"Add", insns{withK(api.LoadK, most), withK(api.Add, 2), end}, 1, 3},
		{"Sub", insns{withK(api.LoadK, 1), withK(api.Sub, 2), end}, most, 3},
		{"Mul", insns{withK(api.LoadK, 0x10001), withK(api.Mul, 0x10001), end}, 0x20001, 3},
		{"Neg", insns{withK(api.LoadK, 1), withK(api.Neg, 0), end}, most, 3},
		{"Neg of the greatest without a sign", insns{withK(api.LoadK, 1<<31), withK(api.Neg, 0), end}, 1 << 31, 3},
		{"Div has no signs", insns{withK(api.LoadK, most), withK(api.Div, most-1), end}, 1, 3},
		{"Mod has no signs", insns{withK(api.LoadK, 1<<31), withK(api.Mod, most), end}, 1 << 31, 3},
		{"Shl loses what goes out", insns{withK(api.LoadK, 3), withK(api.Shl, 31), end}, 1 << 31, 3},
		{"Shr draws no sign in", insns{withK(api.LoadK, 1<<31), withK(api.Shr, 31), end}, 1, 3},
	})
}

func TestP6ShiftsByX(t *testing.T) {
	const a = uint32(0x80000001)
	for n := range uint32(200) {
		for _, x := range []uint32{n, -n, n << 25} {
			load := insns{withK(api.LoadK, a), withK(api.LoadXK, x)}
			runRunCases(t, "P6", numbered(), []runCase{
				{"Shl by X", append(slices.Clone(load), withK(api.Shl+8, 0), end), a << (x % 32), 4},
				{"Shr by X", append(slices.Clone(load), withK(api.Shr+8, 0), end), a >> (x % 32), 4},
			})
		}
	}
}

func TestP6NoughtByX(t *testing.T) {
	for _, code := range []uint16{api.Div + 8, api.Mod + 8} {
		runRunCases(t, "P6", numbered(), []runCase{
			{"X is 0 at first", insns{withK(api.LoadK, 7), withK(code, 100), end}, 0, 2},
			{"X is made 0", insns{withK(api.LoadXK, 7), withK(api.LoadK, 0), withK(api.ToX, 0), withK(api.LoadK, 7), withK(code, 1), end}, 0, 5},
			{"0 by 0", insns{withK(code, 0), withK(api.RetK, 5)}, 0, 1},
			{"nothing else is run", insns{withK(code, 0), withK(api.LoadK, 5), withK(api.Jump, 1), withK(api.RetK, 6), end}, 0, 1},
			{"passed over", insns{withK(api.Jump, 1), withK(code, 0), withK(api.RetK, 5)}, 5, 2},
			{"X is not 0, the outcome is", insns{withK(api.LoadXK, 1), withK(code, 0), withK(api.RetK, 5)}, 5, 3},
		})
	}
}

func TestP6Jump(t *testing.T) {
	for _, k := range []int{0, 1, 2, 255, 256, 257, 4000, 4094} {
		l := insns{{Code: api.Jump, Jt: 9, Jf: 9, K: uint32(k)}}
		for i := range 4095 {
			l = append(l, withK(api.RetK, uint32(i)))
		}
		runRunCases(t, "P6", numbered(), []runCase{{"Jump", l, uint32(k), 2}})
	}
	runRunCases(t, "P6", numbered(), []runCase{
		{"one after the other", insns{withK(api.Jump, 1), end, withK(api.Jump, 2), end, end, withK(api.Jump, 0), withK(api.RetK, 5)}, 5, 4},
		{"Jump leaves A", insns{withK(api.LoadK, 5), withK(api.Jump, 1), withK(api.RetK, 6), end}, 5, 3},
	})
}

// comparisons: whether a test of A holds, told apart from the program.
func comparisons() map[uint16]func(a, n int64) bool {
	return map[uint16]func(a, n int64) bool{
		0x15: func(a, n int64) bool { return a-n == 0 },
		0x25: func(a, n int64) bool { return a-n > 0 },
		0x35: func(a, n int64) bool { return a-n >= 0 },
		0x45: func(a, n int64) bool { return a|n != a+n },
	}
}

func TestP6Tests(t *testing.T) {
	for code, holds := range comparisons() {
		for _, a := range edgeNumbers() {
			for _, n := range edgeNumbers() {
				want := uint32(20)
				if holds(int64(a), int64(n)) {
					want = 10
				}
				ways := append(returns(3), withK(api.RetK, 20), withK(api.RetK, 0), withK(api.RetK, 10))
				byK := insns{withK(api.LoadK, a), withK(api.LoadXK, 77), {Code: code, Jt: 5, Jf: 3, K: n}}
				byX := insns{withK(api.LoadK, a), withK(api.LoadXK, n), {Code: code + 8, Jt: 5, Jf: 3, K: 77}}
				runRunCases(t, "P6", numbered(), []runCase{
					{"with K", append(byK, ways...), want, 4},
					{"with X", append(byX, ways...), want, 4},
				})
			}
		}
	}
}

func TestP6TestsGoAsFarAsTheySay(t *testing.T) {
	for _, code := range []uint16{0x15, 0x25, 0x35, 0x45, 0x1d, 0x2d, 0x3d, 0x4d} {
		for _, far := range []uint8{0, 1, 127, 128, 255} {
			var ways insns
			for i := range 256 {
				ways = append(ways, withK(api.RetK, uint32(i)))
			}
			held := insns{withK(api.LoadK, 5), withK(api.LoadXK, 5), {Code: code, Jt: far, Jf: 7, K: 5}}
			if code&^8 == 0x25 {
				held[0].K = 6
			}
			not := insns{withK(api.LoadK, 2), withK(api.LoadXK, 5), {Code: code, Jt: 7, Jf: far, K: 5}}
			runRunCases(t, "P6", numbered(), []runCase{
				{"Jt", append(held, ways...), uint32(far), 4},
				{"Jf", append(not, ways...), uint32(far), 4},
			})
			leaves := insns{withK(api.LoadK, 5), withK(api.LoadXK, 6), {Code: code, K: 5}}
			runRunCases(t, "P6", numbered(), []runCase{
				{"a test leaves A", append(slices.Clone(leaves), end), 5, 4},
				{"a test leaves X", append(slices.Clone(leaves), withK(api.FromX, 0), end), 6, 5},
			})
		}
	}
}

func TestP6Ends(t *testing.T) {
	for _, k := range edgeNumbers() {
		runRunCases(t, "P6", numbered(), []runCase{
			{"RetK", insns{withK(api.LoadK, 5), withK(api.RetK, k)}, k, 2},
			{"RetA", insns{withK(api.LoadK, k), withK(api.RetA, 5)}, k, 2},
			{"the first end counts", insns{withK(api.RetK, k), withK(api.RetK, 5)}, k, 1},
			{"the first end counts, by A", insns{withK(api.LoadK, k), end, withK(api.RetK, 5)}, k, 2},
		})
	}
}

func TestP6FieldsThatAreNotUsed(t *testing.T) {
	for _, code := range codes() {
		switch code {
		case 0x15, 0x25, 0x35, 0x45, 0x1d, 0x2d, 0x3d, 0x4d:
			continue
		}
		l := insns{withK(api.LoadK, 9), withK(api.LoadXK, 2), withK(api.Store, 4), withK(code, 4), end, withK(api.Add, 1), withK(api.Add, 1), withK(api.Add, 1), end}
		v, steps, e := sluice.Run(l, numbered())
		l[3].Jt, l[3].Jf = 255, 255
		if v2, steps2, e2 := sluice.Run(l, numbered()); v2 != v || steps2 != steps || e2 != e || e != api.OK {
			t.Errorf("P6: code %#x hangs on Jt or Jf: %#x, %d, %d, want %#x, %d, %d", code, v2, steps2, e2, v, steps, e)
		}
	}
}

func TestP6Records(t *testing.T) {
	long := strings.Repeat("\x27", 200)
	for n := range len(long) {
		wantV, wantSteps, wantE := uint32(0), 0, api.ErrRecord
		if n == 64 {
			wantV, wantSteps, wantE = 0x27272727, 2, api.OK
		}
		v, steps, e := sluice.Run(insns{withK(api.LoadAt, 0), end}, long[:n])
		if v != wantV || steps != wantSteps || e != wantE {
			t.Errorf("P6: Run on %d bytes = %#x, %d, %d, want %#x, %d, %d", n, v, steps, e, wantV, wantSteps, wantE)
		}
	}
}

func TestP6NoProgram(t *testing.T) {
	right := withK(api.RetK, api.Allow)
	for _, c := range []checkCase{
		{"none", nil, api.ErrLength, 0},
		{"an empty one", insns{}, api.ErrLength, 0},
		{"too long", returns(4097), api.ErrLength, 0},
		{"code", insns{right, withK(0xffff, 0), right}, api.ErrCode, 0},
		{"a code that X cannot have", insns{right, withK(api.Neg+8, 0), right}, api.ErrCode, 0},
		{"jump", insns{withK(api.Jump, 0)}, api.ErrJump, 0},
		{"test", insns{ifTest(api.IfMore, 0, 1), right}, api.ErrJump, 0},
		{"load", insns{withK(api.LoadAt, 62), right}, api.ErrLoad, 0},
		{"cell", insns{withK(api.Store, 16), right}, api.ErrCell, 0},
		{"nought", insns{withK(api.Mod, 0), right}, api.ErrNought, 0},
		{"shift", insns{withK(api.Shl, 32), right}, api.ErrShift, 0},
		{"end", insns{right, withK(api.LoadK, 0)}, api.ErrEnd, 0},
		{"unset", insns{withK(api.LoadCell, 3), end}, api.ErrUnset, 0},
		{"unset on a way that is not run", insns{withK(api.LoadK, 1), ifTest(api.IfEqual, 0, 1), withK(api.LoadX, 0), end}, api.ErrUnset, 0},
	} {
		for _, record := range []string{numbered(), "", numbered()[:63], numbered() + "x"} { // Check's error is named first
			if v, steps, e := sluice.Run(c.l, record); v != 0 || steps != 0 || e != c.e {
				t.Errorf("P6: %s: Run on %d bytes = %#x, %d, %d, want 0, 0, %d", c.name, len(record), v, steps, e, c.e)
			}
		}
	}
}

func TestP6LongProgram(t *testing.T) {
	ones := slices.Repeat(insns{withK(api.Add, 1)}, 4095)
	tests := slices.Repeat(insns{ifTest(api.IfEqual, 0, 0)}, 4095)
	runRunCases(t, "P6", numbered(), []runCase{
		{"each adds 1", append(ones, end), 4095, 4096},
		{"each tests", append(tests, withK(api.RetK, 9)), 9, 4096},
		{"the first one ends", returns(4096), 0, 1},
		{"over nearly all", append(insns{withK(api.Jump, 4094)}, append(returns(4094), withK(api.RetK, 9))...), 9, 2},
	})
}
