package sluice_test

import (
	"bytes"
	"math/rand"
	"slices"
	"strings"
	"testing"

	"sluice/api"
	"sluice/sluice"
)

// TestP1AnyInput: wild lists and bytes: every call ends, none panics, and with an error all but the place is empty.
func TestP1AnyInput(t *testing.T) {
	r := rand.New(rand.NewSource(1))
	for range 20000 {
		b := make([]byte, r.Intn(200))
		r.Read(b)
		l, e := sluice.Decode(b)
		if (e == api.OK) != (len(l) > 0) {
			t.Fatalf("P1: Decode of %x: %v, %d", b, l, e)
		}
		sluice.Encode(l)
		l = wildProgram(r)
		if e, at := sluice.Check(l); e < api.OK || e > api.ErrUnset || at < 0 || at >= max(1, len(l)) || e == api.OK && at != 0 {
			t.Fatalf("P1: Check of %+v: %d, %d", l, e, at)
		}
		checkWildRun(t, l, wildRecord(r))
	}
}

// wildRecord: of a right length, nearly always.
func wildRecord(r *rand.Rand) string {
	b := make([]byte, 64)
	if r.Intn(10) == 0 {
		b = make([]byte, r.Intn(130))
	}
	r.Read(b)
	return string(b)
}

func checkWildRun(t *testing.T, l insns, record string) {
	t.Helper()
	want, _ := sluice.Check(l)
	if want == api.OK && len(record) != 64 {
		want = api.ErrRecord
	}
	v, steps, e := sluice.Run(l, record)
	if e != want || e != api.OK && (v != 0 || steps != 0) || e == api.OK && (steps < 1 || steps > len(l)) {
		t.Fatalf("P1: Run of %+v on %x: %#x, %d, %d, want %d", l, record, v, steps, e, want)
	}
}

// wildProgram: codes that there are, nearly always; fields that are often at an edge.
func wildProgram(r *rand.Rand) insns {
	edges := []uint32{0, 1, 2, 4, 15, 16, 31, 32, 60, 64, 1 << 31, 1<<32 - 1}
	named := codes()
	l := make(insns, r.Intn(12))
	for i := range l {
		l[i] = api.Insn{Code: named[r.Intn(len(named))], Jt: uint8(r.Intn(4)), Jf: uint8(r.Intn(4)), K: edges[r.Intn(len(edges))]}
		if r.Intn(50) == 0 {
			l[i].Code = uint16(r.Intn(1 << 16))
		}
	}
	return l
}

func TestP2RunWritesNothing(t *testing.T) {
	r := rand.New(rand.NewSource(3))
	for range 2000 {
		l := rightProgram(r)
		spare := append(slices.Clone(l), withK(77, 77), withK(78, 78))
		kept := slices.Clone(spare)
		record := wildRecord(r)
		keptRecord := strings.Clone(record)
		sluice.Run(spare[:len(l)], record)
		sluice.Run(spare[:len(l)-1], record)
		if !slices.Equal(spare, kept) || record != keptRecord {
			t.Fatalf("P2: Run changes what was handed in: %+v, was %+v", spare, kept)
		}
	}
}

// TestP2RunLeavesNothing: a run begins anew, whatever was run ahead of it.
func TestP2RunLeavesNothing(t *testing.T) {
	r := rand.New(rand.NewSource(4))
	for range 500 {
		sluice.Run(rightProgram(r), wildRecord(r))
		runRunCases(t, "P2", numbered(), []runCase{
			{"A of an earlier run", insns{end}, 0, 1},
			{"X of an earlier run", insns{withK(api.FromX, 0), end}, 0, 2},
		})
	}
}

func TestP2TheSameRunAgain(t *testing.T) {
	r := rand.New(rand.NewSource(7))
	var lists []insns
	var first []runCase
	for range 2000 {
		l := rightProgram(r)
		v, steps, _ := sluice.Run(l, numbered())
		lists = append(lists, append(make(insns, 0, len(l)+9), l...))
		first = append(first, runCase{"asked again", l, v, steps})
	}
	slices.Reverse(first)
	runRunCases(t, "P2", numbered(), first)
	for i := range first {
		first[i].l = lists[len(lists)-1-i]
	}
	runRunCases(t, "P2", numbered(), first)
}

func TestP2NothingHandedInIsWrittenInto(t *testing.T) {
	l, b := pairs()
	spareL := append(slices.Clone(l), withK(77, 77), withK(78, 78))
	spareB := append(slices.Clone(b), "spare room"...)
	keptL, keptB := slices.Clone(spareL), slices.Clone(spareB)
	sluice.Decode(spareB[:len(b)])
	sluice.Encode(spareL[:len(l)])
	sluice.Check(spareL[:len(l)])
	sluice.Check(spareL[:1])
	if !slices.Equal(spareL, keptL) || !bytes.Equal(spareB, keptB) {
		t.Errorf("P2: what was handed in is changed: %v, %x", spareL, spareB)
	}
}

// scribble writes into all of a list, its spare room too.
func scribble[T any](l []T, v T) {
	l = l[:cap(l)]
	for i := range l {
		l[i] = v
	}
}

func TestP2WhatComesOutIsNew(t *testing.T) {
	l, b := pairs()
	keptL, keptB := slices.Clone(l), slices.Clone(b)
	l1, _ := sluice.Decode(b)
	b1 := sluice.Encode(l)
	l2, _ := sluice.Decode(b)
	b2 := sluice.Encode(l)
	scribble(l1, withK(99, 99))
	scribble(b1, 99)
	l3, _ := sluice.Decode(b)
	b3 := sluice.Encode(l)
	if !slices.Equal(l, keptL) || !bytes.Equal(b, keptB) {
		t.Errorf("P2: writing into what came out changes what was handed in")
	}
	if !slices.Equal(l2, keptL) || !bytes.Equal(b2, keptB) {
		t.Errorf("P2: writing into what came out changes what else came out")
	}
	if !slices.Equal(l3, keptL) || !bytes.Equal(b3, keptB) {
		t.Errorf("P2: writing into what came out changes what comes out later")
	}
}

func TestP2NothingHandedInIsKept(t *testing.T) {
	l, b := pairs()
	keptL, keptB := slices.Clone(l), slices.Clone(b)
	l1, _ := sluice.Decode(b)
	b1 := sluice.Encode(l)
	scribble(l, withK(99, 99))
	scribble(b, 99)
	if !slices.Equal(l1, keptL) || !bytes.Equal(b1, keptB) {
		t.Errorf("P2: writing into what was handed in changes what came out")
	}
}

func TestP2TheSameAgain(t *testing.T) {
	r := rand.New(rand.NewSource(2))
	var lists []insns
	var first []checkCase
	for range 2000 {
		l := wildProgram(r)
		e, at := sluice.Check(l)
		lists = append(lists, l)
		first = append(first, checkCase{"asked again", l, e, at})
	}
	slices.Reverse(first)
	runCheckCases(t, "P2", first)
	for i, l := range lists {
		room := append(make(insns, 0, len(l)+9), l...)
		c := first[len(first)-1-i]
		if e, at := sluice.Check(room); e != c.e || at != c.at {
			t.Errorf("P2: Check of %v hangs on its spare room: %d, %d, want %d, %d", l, e, at, c.e, c.at)
		}
	}
}
