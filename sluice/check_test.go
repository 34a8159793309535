package sluice_test

import (
	"slices"
	"testing"

	"sluice/api"
	"sluice/sluice"
)

var end = withK(api.RetA, 0)

func TestP4Examples(t *testing.T) {
	allow := withK(api.RetK, api.Allow)
	runCheckCases(t, "P4", []checkCase{
		{"RetK alone", insns{allow}, api.OK, 0},
		{"a test of the number", insns{withK(api.LoadAt, 0), {Code: api.IfEqual, Jt: 0, Jf: 1, K: 39}, withK(api.RetK, 0), allow}, api.OK, 0},
		{"RetK with a Jump 0 ahead", insns{withK(api.Jump, 0), allow}, api.OK, 0},
		{"a Jump 0 alone", insns{withK(api.Jump, 0)}, api.ErrJump, 0},
		{"a division by X", insns{withK(api.LoadK, 7), withK(api.Div+api.ByX, 0), end}, api.OK, 0},
		{"LoadAt 62", insns{withK(api.LoadAt, 62), end}, api.ErrLoad, 0},
	})
}

func TestP4Length(t *testing.T) {
	runCheckCases(t, "P4", []checkCase{
		{"nil", nil, api.ErrLength, 0},
		{"no instruction", insns{}, api.ErrLength, 0},
		{"one", returns(1), api.OK, 0},
		{"as many as may be", returns(4096), api.OK, 0},
		{"one too many", returns(4097), api.ErrLength, 0},
		{"far too many", returns(70000), api.ErrLength, 0},
		{"too many counts more than a wrong code", slices.Repeat(insns{withK(0xffff, 0)}, 4097), api.ErrLength, 0},
	})
}

func TestP4EveryCode(t *testing.T) {
	named := codes()
	if len(named) != 43 {
		t.Fatalf("the test's list has %d codes", len(named))
	}
	for n := range 1 << 16 {
		code, want, place := uint16(n), api.ErrCode, 1
		if slices.Contains(named, code) {
			want, place = api.OK, 0
		}
		l := insns{withK(api.Store, 4), withK(code, 4), end, end, end, end, end} // a K of 4 is right for each code
		if e, at := sluice.Check(l); e != want || at != place {
			t.Errorf("P4: code %#x: Check = %d, %d, want %d, %d", code, e, at, want, place)
		}
	}
}

func TestP4JumpByK(t *testing.T) {
	runCheckCases(t, "P4", []checkCase{
		{"0 alone", insns{withK(api.Jump, 0)}, api.ErrJump, 0},
		{"to the last", insns{withK(api.Jump, 0), end}, api.OK, 0},
		{"behind the last", insns{withK(api.Jump, 1), end}, api.ErrJump, 0},
		{"over one", insns{withK(api.Jump, 1), end, end}, api.OK, 0},
		{"over all but the last", append(insns{withK(api.Jump, 4094)}, returns(4095)...), api.OK, 0},
		{"over all", append(insns{withK(api.Jump, 4095)}, returns(4095)...), api.ErrJump, 0},
		{"goes round to itself", insns{withK(api.Jump, 0xffffffff), end}, api.ErrJump, 0},
		{"goes round to the first", insns{end, withK(api.Jump, 0xfffffffe), end}, api.ErrJump, 1},
		{"the highest bit", insns{withK(api.Jump, 1<<31), end}, api.ErrJump, 0},
		{"Jt and Jf do not matter", insns{{Code: api.Jump, Jt: 255, Jf: 255}, end}, api.OK, 0},
		{"one that is not reached", insns{end, withK(api.Jump, 1), end}, api.ErrJump, 1},
		{"as the last one", insns{end, withK(api.Jump, 0)}, api.ErrJump, 1},
	})
}

func TestP4JumpByTest(t *testing.T) {
	for _, c := range []uint16{0x15, 0x25, 0x35, 0x45, 0x1d, 0x2d, 0x3d, 0x4d} {
		runCheckCases(t, "P4", []checkCase{
			{"both to the last", insns{ifTest(c, 0, 0), end}, api.OK, 0},
			{"Jt behind the last", insns{ifTest(c, 1, 0), end}, api.ErrJump, 0},
			{"Jf behind the last", insns{ifTest(c, 0, 1), end}, api.ErrJump, 0},
			{"both behind the last", insns{end, ifTest(c, 9, 9), end}, api.ErrJump, 1},
			{"Jt as far as can be", append(insns{ifTest(c, 255, 0)}, returns(256)...), api.OK, 0},
			{"Jf as far as can be", append(insns{ifTest(c, 0, 255)}, returns(256)...), api.OK, 0},
			{"Jt one too far", append(insns{ifTest(c, 255, 0)}, returns(255)...), api.ErrJump, 0},
			{"Jf one too far", append(insns{ifTest(c, 0, 255)}, returns(255)...), api.ErrJump, 0},
			{"K does not jump", insns{withK(c, 0xffffffff), end}, api.OK, 0},
			{"as the last one", insns{ifTest(c, 0, 0)}, api.ErrJump, 0},
		})
	}
}

func TestP4BoundsOfK(t *testing.T) {
	for _, c := range []struct {
		code  uint16
		right func(k uint32) bool
		e     api.Errno
	}{
		{api.LoadAt, func(k uint32) bool { return k < 64 && k%4 == 0 }, api.ErrLoad},
		{api.LoadCell, func(k uint32) bool { return k < 16 }, api.ErrCell},
		{api.LoadX, func(k uint32) bool { return k < 16 }, api.ErrCell},
		{api.Store, func(k uint32) bool { return k < 16 }, api.ErrCell},
		{api.StoreX, func(k uint32) bool { return k < 16 }, api.ErrCell},
		{api.Div, func(k uint32) bool { return k != 0 }, api.ErrNought},
		{api.Mod, func(k uint32) bool { return k != 0 }, api.ErrNought},
		{api.Shl, func(k uint32) bool { return k < 32 }, api.ErrShift},
		{api.Shr, func(k uint32) bool { return k < 32 }, api.ErrShift},
	} {
		for _, k := range manyKs() {
			l := allCellsSet()
			want, place := api.OK, 0
			if !c.right(k) {
				want, place = c.e, len(l)
			}
			l = append(l, withK(c.code, k), end)
			if e, at := sluice.Check(l); e != want || at != place {
				t.Errorf("P4: code %#x, K %#x: Check = %d, %d, want %d, %d", c.code, k, e, at, want, place)
			}
		}
	}
}

func manyKs() []uint32 {
	var ks []uint32
	for k := range uint32(300) {
		ks = append(ks, k, -k)
	}
	for bit := range 32 {
		ks = append(ks, 1<<bit)
	}
	return ks
}

func allCellsSet() insns {
	var l insns
	for c := range uint32(api.Cells) {
		l = append(l, withK(api.Store, c))
	}
	return l
}

func TestP4FieldsThatAreNotUsed(t *testing.T) {
	bounded := []uint16{api.LoadAt, api.LoadCell, api.LoadX, api.Store, api.StoreX, api.Div, api.Mod, api.Shl, api.Shr, api.Jump}
	tests := []uint16{0x15, 0x25, 0x35, 0x45, 0x1d, 0x2d, 0x3d, 0x4d}
	for _, code := range codes() {
		in := api.Insn{Code: code, Jt: 255, Jf: 255}
		if slices.Contains(tests, code) {
			in.Jt, in.Jf = 0, 0
		}
		ks := []uint32{0, 1<<32 - 1}
		if slices.Contains(bounded, code) {
			ks = []uint32{4}
		}
		for _, in.K = range ks {
			l := insns{withK(api.Store, 4), in, end, end, end, end, end}
			if e, at := sluice.Check(l); e != api.OK || at != 0 {
				t.Errorf("P4: %+v: Check = %d, %d", in, e, at)
			}
		}
	}
}

func TestP4TheLastOne(t *testing.T) {
	for _, code := range codes() {
		want, place := api.ErrEnd, 2
		switch code {
		case api.RetK, api.RetA:
			want, place = api.OK, 0
		case api.Jump, 0x15, 0x25, 0x35, 0x45, 0x1d, 0x2d, 0x3d, 0x4d:
			want = api.ErrJump
		}
		l := insns{withK(api.Store, 4), end, withK(code, 4)}
		if e, at := sluice.Check(l); e != want || at != place {
			t.Errorf("P4: code %#x as the last one: Check = %d, %d, want %d, %d", code, e, at, want, place)
		}
	}
}

func TestP4TheFirstFaultCounts(t *testing.T) {
	wrong := []checkCase{
		{"code", insns{withK(0xff, 0)}, api.ErrCode, 0},
		{"jump", insns{withK(api.Jump, 1000)}, api.ErrJump, 0},
		{"test", insns{ifTest(api.IfMore, 200, 0)}, api.ErrJump, 0},
		{"load", insns{withK(api.LoadAt, 2)}, api.ErrLoad, 0},
		{"cell", insns{withK(api.LoadX, 16)}, api.ErrCell, 0},
		{"nought", insns{withK(api.Mod, 0)}, api.ErrNought, 0},
		{"shift", insns{withK(api.Shl, 32)}, api.ErrShift, 0},
	}
	for _, a := range wrong {
		for _, b := range wrong {
			first, second := a.l[0], b.l[0]
			runCheckCases(t, "P4", []checkCase{
				{a.name + " ahead of " + b.name, insns{end, first, second, end}, a.e, 1},
				{a.name + " ahead of no end", insns{end, second, first, withK(api.LoadK, 0)}, b.e, 1},
				{a.name + " behind an unset cell", insns{withK(api.LoadCell, 0), first, end}, a.e, 1},
			})
		}
	}
	runCheckCases(t, "P4", []checkCase{
		{"no end ahead of unset", insns{withK(api.LoadCell, 0), end, withK(api.LoadK, 7)}, api.ErrEnd, 2},
	})
}
