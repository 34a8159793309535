package sluice_test

import (
	"math/rand"
	"testing"

	"sluice/api"
	"sluice/sluice"
)

func TestP5Examples(t *testing.T) {
	load, store := withK(api.LoadCell, 3), withK(api.Store, 3)
	runCheckCases(t, "P5", []checkCase{
		{"never stored", insns{load, end}, api.ErrUnset, 0},
		{"never stored, to X", insns{withK(api.LoadX, 3), end}, api.ErrUnset, 0},
		{"stored", insns{store, load, end}, api.OK, 0},
		{"stored from X", insns{withK(api.StoreX, 3), load, end}, api.OK, 0},
		{"stored, to X", insns{store, withK(api.LoadX, 3), end}, api.OK, 0},
		{"stored only later", insns{load, store, end}, api.ErrUnset, 0},
		{"a load sets nothing", insns{store, withK(api.LoadX, 3), withK(api.LoadX, 4), end}, api.ErrUnset, 2},
		{"the first and the last cell", insns{withK(api.Store, 0), withK(api.Store, 15), withK(api.LoadX, 15), withK(api.LoadCell, 0), end}, api.OK, 0},
		{"the last cell only", insns{withK(api.Store, 15), withK(api.LoadCell, 0), end}, api.ErrUnset, 1},
		{"the first cell only", insns{withK(api.Store, 0), withK(api.LoadCell, 15), end}, api.ErrUnset, 1},
		{"two stores into one", insns{store, store, load, end}, api.OK, 0},
		{"the first of two", insns{withK(api.LoadX, 9), load, end}, api.ErrUnset, 0},
		{"behind the end", insns{withK(api.RetK, 0), load, end}, api.OK, 0},
		{"behind the end, by A", insns{end, load, end}, api.OK, 0},
		{"behind a division by X", insns{withK(api.Div+8, 0), load, end}, api.ErrUnset, 1},
		{"behind a rest by X", insns{withK(api.Mod+8, 0), load, end}, api.ErrUnset, 1},
	})
}

func TestP5Ways(t *testing.T) {
	load, store := withK(api.LoadCell, 3), withK(api.Store, 3)
	runCheckCases(t, "P5", []checkCase{
		{"passed over", insns{withK(api.Jump, 1), load, end}, api.OK, 0},
		{"a store passed over", insns{withK(api.Jump, 1), store, load, end}, api.ErrUnset, 2},
		{"a store that is not passed over", insns{withK(api.Jump, 0), store, load, end}, api.OK, 0},
		{"Jump's Jt and Jf lead nowhere", insns{store, {Code: api.Jump, Jt: 0, Jf: 0, K: 1}, withK(api.LoadX, 4), end}, api.OK, 0},
		{"a jump from what is not reached", insns{end, withK(api.Jump, 0), load, end}, api.OK, 0},
		{"a way without the store, that is not reached", insns{withK(api.Jump, 1), withK(api.Jump, 1), store, load, end}, api.OK, 0},
		{"a test that is not reached", insns{withK(api.Jump, 1), ifTest(api.IfBits, 1, 1), store, load, end}, api.OK, 0},
		{"a load that is not reached, then one that is", insns{withK(api.Jump, 1), load, withK(api.LoadX, 5), end}, api.ErrUnset, 2},
	})
	for _, c := range []uint16{0x15, 0x25, 0x35, 0x45, 0x1d, 0x2d, 0x3d, 0x4d} {
		runCheckCases(t, "P5", []checkCase{
			{"Jf around the store", insns{ifTest(c, 0, 1), store, load, end}, api.ErrUnset, 2},
			{"Jt around the store", insns{ifTest(c, 1, 0), store, load, end}, api.ErrUnset, 2},
			{"both around the store", insns{ifTest(c, 1, 1), store, load, end}, api.ErrUnset, 2},
			{"neither around the store", insns{ifTest(c, 0, 0), store, load, end}, api.OK, 0},
			{"both around the load", insns{ifTest(c, 1, 1), load, end}, api.OK, 0},
			{"stored ahead of both", insns{store, ifTest(c, 1, 0), withK(api.Store, 4), load, end}, api.OK, 0},
			{"stored on either", insns{ifTest(c, 0, 2), store, withK(api.Jump, 1), withK(api.StoreX, 3), load, end}, api.OK, 0},
			{"another one stored on Jf", insns{ifTest(c, 0, 2), store, withK(api.Jump, 1), withK(api.Store, 4), load, end}, api.ErrUnset, 4},
			{"another one stored on Jt", insns{ifTest(c, 2, 0), store, withK(api.Jump, 1), withK(api.Store, 4), load, end}, api.ErrUnset, 4},
			{"the one without ends", insns{ifTest(c, 0, 1), withK(api.RetK, 1), store, load, end}, api.OK, 0},
			{"the load only behind Jf", insns{ifTest(c, 0, 1), end, load, end}, api.ErrUnset, 2},
			{"the load only behind Jt", insns{ifTest(c, 1, 0), end, load, end}, api.ErrUnset, 2},
		})
	}
}

func TestP5LongProgram(t *testing.T) {
	// Many tests in a row have more ways than can be followed one by one: Check has to end all the same (P1).
	var l insns
	for range 2046 {
		l = append(l, ifTest(api.IfEqual, 0, 1), withK(api.Store, 1))
	}
	l = append(l, withK(api.Store, 2), withK(api.LoadCell, 2), withK(api.LoadX, 1), end)
	runCheckCases(t, "P5", []checkCase{
		{"a cell that each store may miss", l, api.ErrUnset, len(l) - 2},
		{"without that load", append(l[:len(l)-2:len(l)-2], end), api.OK, 0},
		{"a jump over nearly all", append(append(insns{withK(api.Jump, 4093)}, returns(4093)...), withK(api.LoadX, 0), end), api.ErrUnset, 4094},
	})
}

// TestP5EveryWay holds Check against the promise's own words: all ways are followed, one by one.
func TestP5EveryWay(t *testing.T) {
	r := rand.New(rand.NewSource(5))
	found := map[api.Errno]int{}
	for range 100000 {
		l := someProgram(r)
		w := wayfarer{l: l, first: len(l)}
		w.follow(0, map[uint32]int{})
		want, place := api.OK, 0
		if w.first < len(l) {
			want, place = api.ErrUnset, w.first
		}
		e, at := sluice.Check(l)
		if e != want || at != place {
			t.Fatalf("P5: %+v: Check = %d, %d, want %d, %d", l, e, at, want, place)
		}
		found[e]++
	}
	if found[api.OK] < 10000 || found[api.ErrUnset] < 10000 {
		t.Errorf("the programs are too much alike: %v", found)
	}
}

// someProgram makes a program that is right but for cells that may be unset.
func someProgram(r *rand.Rand) insns {
	n := 2 + r.Intn(12)
	l := make(insns, n)
	for i := range n - 1 {
		behind := n - 1 - i
		cell := uint32(r.Intn(2)) * 15
		l[i] = []api.Insn{
			withK(api.Store, cell), withK(api.StoreX, cell), withK(api.Store, cell),
			withK(api.LoadCell, cell), withK(api.LoadX, cell),
			withK(api.Jump, uint32(r.Intn(behind))),
			ifTest(api.IfEqual, uint8(r.Intn(behind)), uint8(r.Intn(behind))),
			ifTest(api.IfLeast+8, uint8(r.Intn(behind)), uint8(r.Intn(behind))),
			withK(api.RetK, cell), withK(api.Mod+8, 0), withK(api.Add, 16),
		}[r.Intn(11)]
	}
	l[n-1] = end
	return l
}

// wayfarer follows every way through a program; first is the lowest load from an unset cell that it met.
type wayfarer struct {
	l     insns
	first int
}

func (w *wayfarer) follow(i int, stores map[uint32]int) {
	in := w.l[i]
	switch in.Code {
	case api.RetK, api.RetA:
		return
	case api.Jump:
		w.follow(i+1+int(in.K), stores)
		return
	case api.IfEqual, api.IfLeast + 8:
		w.follow(i+1+int(in.Jt), stores)
		w.follow(i+1+int(in.Jf), stores)
		return
	case api.LoadCell, api.LoadX:
		if stores[in.K] == 0 {
			w.first = min(w.first, i)
		}
	case api.Store, api.StoreX:
		stores[in.K]++
		defer func() { stores[in.K]-- }()
	}
	w.follow(i+1, stores)
}
