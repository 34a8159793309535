package sluice_test

import (
	"math/rand"
	"slices"
	"strings"
	"testing"

	"sluice/api"
	"sluice/sluice"
)

// says: the bytes of a program whose verdict is v on every record.
func says(v uint32) []byte { return sluice.Encode(insns{withK(api.RetK, v)}) }

// long: the bytes of a program of n instructions whose verdict is v on every record.
func long(n int, v uint32) []byte {
	return sluice.Encode(slices.Repeat(insns{withK(api.RetK, v)}, n))
}

// saysWord: the bytes of a program whose verdict is the record's word at a place.
func saysWord(at uint32) []byte { return sluice.Encode(insns{withK(api.LoadAt, at), end}) }

func install(t *testing.T, s *sluice.Stack, e api.Errno, at int, programs ...[]byte) {
	t.Helper()
	if gotE, gotAt := s.Install(programs...); gotE != e || gotAt != at {
		t.Errorf("P8: Install of %d programs = %d, %d, want %d, %d", len(programs), gotE, gotAt, e, at)
	}
}

func judge(t *testing.T, s *sluice.Stack, record string, verdict uint32, whose int) {
	t.Helper()
	if v, n, e := s.Judge(record); v != verdict || n != whose || e != api.OK {
		t.Errorf("P8: Judge = %#x, %d, %d, want %#x, %d", v, n, e, verdict, whose)
	}
}

// stackOf: a stack on which so many were put, in one call.
func stackOf(t *testing.T, programs ...[]byte) *sluice.Stack {
	t.Helper()
	s := sluice.New()
	install(t, s, api.OK, 0, programs...)
	return s
}

// actions: those that the document names, from the strictest one on, as it numbers them.
func actions() []uint32 {
	return []uint32{0x8000, 0, 0x0003, 0x0005, 0x7fc0, 0x7ff0, 0x7ffc, 0x7fff}
}

func TestP8NoPrograms(t *testing.T) {
	s := sluice.New()
	judge(t, s, numbered(), 0x7fff0000, -1)
	install(t, s, api.OK, 0)
	install(t, s, api.OK, 0, [][]byte{}...)
	judge(t, s, numbered(), 0x7fff0000, -1)
	install(t, s, api.ErrLength, 0, nil)
	judge(t, s, numbered(), 0x7fff0000, -1)
}

func TestP8OneProgram(t *testing.T) {
	for _, a := range actions() {
		v := a<<16 | 0x1234
		judge(t, stackOf(t, says(v)), numbered(), v, 0)
	}
	judge(t, stackOf(t, []byte("\x06\x00\x00\x00\x00\x00\xff\x7f")), numbered(), api.Allow, 0)
	number := stackOf(t, sluice.Encode(insns{withK(api.LoadAt, 0), {Code: api.IfEqual, Jf: 1, K: 39}, withK(api.RetK, 0), withK(api.RetK, api.Allow)}))
	judge(t, number, call(39, 1, sixArgs{}), 0, 0)
	judge(t, number, call(38, 1, sixArgs{}), api.Allow, 0)
}

// TestP8SeveralPrograms: it does not matter in how many calls they are installed.
func TestP8SeveralPrograms(t *testing.T) {
	programs := [][]byte{saysWord(16), saysWord(24), saysWord(32), saysWord(40)}
	stacks := []*sluice.Stack{stackOf(t, programs...), sluice.New(), sluice.New(), sluice.New()}
	for _, b := range programs {
		install(t, stacks[1], api.OK, 0, b)
		install(t, stacks[1], api.OK, 0)
	}
	install(t, stacks[2], api.OK, 0, programs[:1]...)
	install(t, stacks[2], api.OK, 0, programs[1:]...)
	install(t, stacks[3], api.OK, 0, programs[:3]...)
	install(t, stacks[3], api.OK, 0, programs[3:]...)
	for _, s := range stacks {
		judge(t, s, call(1, 1, sixArgs{api.Allow, api.Trap, api.Log, api.Notify}), api.Trap, 1)
		judge(t, s, call(1, 1, sixArgs{api.Stop, api.Trap, api.Log, api.Notify}), api.Stop, 0)
		judge(t, s, call(1, 1, sixArgs{api.Allow, api.Trace, api.Refuse | 9, api.Notify}), api.Refuse|9, 2)
		judge(t, s, call(1, 1, sixArgs{api.Allow, api.Allow, api.Allow, api.Allow | 1}), api.Allow|1, 3)
		judge(t, s, call(1, 1, sixArgs{api.Log, api.Trap | 1, api.Trap | 2, api.Allow}), api.Trap|2, 2)
	}
}

// TestP8WhoseOverSeveralInstalls: the numbers go on from call to call, and refused calls do not count.
func TestP8WhoseOverSeveralInstalls(t *testing.T) {
	s := sluice.New()
	for i, v := range []uint32{api.Allow, api.Log, api.Trace, api.Notify, api.Refuse, api.Trap, api.Stop, api.Kill} {
		install(t, s, api.OK, 0, says(v))
		judge(t, s, numbered(), v, i)
		install(t, s, api.ErrLength, 1, says(api.Kill), nil)
		judge(t, s, numbered(), v, i)
	}
	s = stackOf(t, says(api.Log), says(api.Refuse|1))
	install(t, s, api.OK, 0, says(api.Allow), says(api.Log))
	judge(t, s, numbered(), api.Refuse|1, 1)
	install(t, s, api.OK, 0, says(api.Allow), says(api.Refuse|2), says(api.Allow))
	judge(t, s, numbered(), api.Refuse|2, 5)
}

func TestP8EachActionAgainstEachOther(t *testing.T) {
	for i, a := range actions() {
		for j, b := range actions() {
			first, second := a<<16|1, b<<16|2
			verdict, whose := second, 1
			if i < j {
				verdict, whose = first, 0
			}
			judge(t, stackOf(t, says(first), says(second)), numbered(), verdict, whose)
			s := stackOf(t, says(first))
			install(t, s, api.OK, 0, says(second))
			judge(t, s, numbered(), verdict, whose)
		}
	}
}

func TestP8EqualActions(t *testing.T) {
	for _, a := range actions() {
		for _, lower := range [][]uint32{{1, 2, 3}, {3, 2, 1}, {0xffff, 0x8000, 0}, {0, 0x8000, 0xffff}, {7, 7, 7}} {
			s := sluice.New()
			for i, v := range lower {
				install(t, s, api.OK, 0, says(a<<16|v))
				judge(t, s, numbered(), a<<16|v, i)
			}
			if a != 0x7fff {
				install(t, s, api.OK, 0, says(api.Allow))
				judge(t, s, numbered(), a<<16|lower[2], 2)
			}
		}
	}
}

// TestP8EveryAction: each of 16 bits: what is not named is as strict as Kill, and stricter than all others.
func TestP8EveryAction(t *testing.T) {
	words := stackOf(t, saysWord(16), saysWord(24))
	for a := range uint32(1 << 16) {
		strict := a == 0x8000 || !slices.Contains(actions(), a)
		v := a<<16 | 5
		if strict {
			judge(t, words, call(1, 1, sixArgs{api.Kill | 9, uint64(v)}), v, 1)
			judge(t, words, call(1, 1, sixArgs{uint64(v), api.Kill}), api.Kill, 1)
			judge(t, words, call(1, 1, sixArgs{uint64(v), 0xabcd0000}), 0xabcd0000, 1)
			judge(t, words, call(1, 1, sixArgs{0xabcd0000, uint64(v)}), v, 1)
			judge(t, words, call(1, 1, sixArgs{uint64(v), api.Stop}), v, 0)
			judge(t, words, call(1, 1, sixArgs{uint64(v), api.Allow}), v, 0)
		} else {
			judge(t, words, call(1, 1, sixArgs{uint64(v), api.Kill}), api.Kill, 1)
			judge(t, words, call(1, 1, sixArgs{api.Kill, uint64(v)}), api.Kill, 0)
			judge(t, words, call(1, 1, sixArgs{0xabcd0000, uint64(v)}), 0xabcd0000, 0)
		}
	}
}

func TestP8Records(t *testing.T) {
	s := stackOf(t, says(api.Trap|3), says(api.Kill))
	whole := strings.Repeat("\x27", 130)
	for _, stack := range []*sluice.Stack{sluice.New(), s} {
		for _, n := range []int{0, 1, 4, 32, 63, 65, 128, 130} {
			if v, whose, e := stack.Judge(whole[:n]); v != 0 || whose != 0 || e != api.ErrRecord {
				t.Errorf("P8: Judge of %d bytes = %#x, %d, %d", n, v, whose, e)
			}
		}
	}
	judge(t, sluice.New(), whole[:64], api.Allow, -1)
	judge(t, s, whole[:64], api.Kill, 1)
	for at := uint32(0); at < 64; at += 4 {
		b := make([]byte, 64)
		copy(b[at:], "\x01\x02\x03\x00")
		judge(t, stackOf(t, saysWord(at), says(api.Refuse)), string(b), api.Trap|0x201, 0)
	}
}

// wrongProgram: what may be wrong with a program, and what Install says of it.
type wrongProgram struct {
	name string
	b    []byte
	e    api.Errno
}

func wrongPrograms() []wrongProgram {
	of := func(l ...api.Insn) []byte { return sluice.Encode(l) }
	return []wrongProgram{
		{"nil", nil, api.ErrLength},
		{"no bytes", []byte{}, api.ErrLength},
		{"a part of an instruction", says(0)[:7], api.ErrLength},
		{"a byte more", append(says(0), 0), api.ErrLength},
		{"an instruction too many", long(4097, 0), api.ErrLength},
		{"far too many", long(8193, 0), api.ErrLength},
		{"too many, of a wrong code", sluice.Encode(slices.Repeat(insns{withK(0xffff, 0)}, 4097)), api.ErrLength},
		{"a code that is none", of(withK(0x16, 0), withK(0xffff, 0), end), api.ErrCode},
		{"a jump too far", of(withK(api.Jump, 1), end), api.ErrJump},
		{"a test too far", of(ifTest(api.IfEqual, 0, 1), end), api.ErrJump},
		{"a load of half a word", of(withK(api.LoadAt, 62), end), api.ErrLoad},
		{"a load behind the record", of(withK(api.LoadAt, 64), end), api.ErrLoad},
		{"no cell", of(withK(api.Store, 16), end), api.ErrCell},
		{"a division by 0", of(withK(api.Div, 0), end), api.ErrNought},
		{"a shift too far", of(withK(api.Shl, 32), end), api.ErrShift},
		{"no end", of(end, withK(api.LoadK, 0)), api.ErrEnd},
		{"a cell that is not set", of(withK(api.LoadCell, 3), end), api.ErrUnset},
		{"a cell that is set one way only", of(ifTest(api.IfEqual, 0, 1), withK(api.Store, 3), withK(api.LoadX, 3), end), api.ErrUnset},
	}
}

// TestP8WrongPrograms: at each place of a call, on stacks that are empty, filled in part and full.
func TestP8WrongPrograms(t *testing.T) {
	for _, w := range wrongPrograms() {
		for _, there := range []int{0, 1, 5, 8} {
			for at := range 12 {
				s := sluice.New()
				verdict, whose := uint32(api.Allow), -1
				for i := range there {
					verdict, whose = api.Log|uint32(i), i
					install(t, s, api.OK, 0, says(verdict))
				}
				programs := slices.Repeat([][]byte{says(api.Kill)}, 12)
				programs[at] = w.b
				if e, n := s.Install(programs[:at+1]...); e != w.e || n != at {
					t.Errorf("P8: %s, as the last of %d upon %d: Install = %d, %d, want %d", w.name, at+1, there, e, n, w.e)
				}
				if e, n := s.Install(programs...); e != w.e || n != at {
					t.Errorf("P8: %s, at %d upon %d: Install = %d, %d, want %d", w.name, at, there, e, n, w.e)
				}
				judge(t, s, numbered(), verdict, whose)
				if there < 8 {
					install(t, s, api.OK, 0, says(api.Trap))
					judge(t, s, numbered(), api.Trap, there)
				}
			}
		}
	}
}

func TestP8TheFirstWrongOneCounts(t *testing.T) {
	wrong := wrongPrograms()
	s := stackOf(t, says(api.Log))
	for _, a := range wrong {
		for _, b := range wrong {
			install(t, s, a.e, 0, a.b, b.b)
			install(t, s, b.e, 1, says(api.Kill), b.b, says(api.Kill), a.b)
			install(t, s, a.e, 2, says(0), says(0), a.b, a.b, b.b)
		}
	}
	judge(t, s, numbered(), api.Log, 0)
}

// TestP8AWrongOneCountsMoreThanTooMany: wherever it is, ahead of what is too many or far behind it.
func TestP8AWrongOneCountsMoreThanTooMany(t *testing.T) {
	for _, w := range wrongPrograms() {
		full := stackOf(t, slices.Repeat([][]byte{says(api.Trap)}, 8)...)
		install(t, full, w.e, 0, w.b)
		install(t, full, w.e, 1, says(0), w.b)
		install(t, full, api.ErrFull, 0, says(0))
		judge(t, full, numbered(), api.Trap, 7)

		heavy := stackOf(t, long(4096, api.Log), long(4096, api.Log))
		install(t, heavy, w.e, 0, w.b, long(4096, 0))
		install(t, heavy, w.e, 2, says(0), long(4096, 0), w.b)
		install(t, heavy, api.ErrFull, 0, says(0))
		judge(t, heavy, numbered(), api.Log, 1)

		many := append(slices.Repeat([][]byte{says(0)}, 1000), w.b, says(0))
		install(t, sluice.New(), w.e, 1000, many...)
	}
}

func TestP8EightPrograms(t *testing.T) {
	eight := slices.Repeat([][]byte{says(api.Refuse)}, 8)
	nine := slices.Repeat([][]byte{says(api.Stop)}, 9)
	for there := range 9 {
		s := stackOf(t, eight[:there]...)
		install(t, s, api.ErrFull, 0, nine[:9-there]...)
		install(t, s, api.ErrFull, 0, nine...)
		install(t, s, api.ErrFull, 0, slices.Repeat(nine, 100)...)
		if there > 0 {
			judge(t, s, numbered(), api.Refuse, there-1)
		} else {
			judge(t, s, numbered(), api.Allow, -1)
		}
		install(t, s, api.OK, 0, eight[there:]...)
		judge(t, s, numbered(), api.Refuse, 7)
		install(t, s, api.OK, 0)
		install(t, s, api.ErrFull, 0, says(api.Stop))
		judge(t, s, numbered(), api.Refuse, 7)
	}
}

// fullOf: how long the programs of one call, or of several, are, and whether they are too long together.
type fullOf struct {
	name    string
	there   []int
	lengths []int
	e       api.Errno
}

func TestP8InstructionsTogether(t *testing.T) {
	for _, c := range []fullOf{
		{"two that are as long as can be", nil, []int{4096, 4096}, api.OK},
		{"one more, in one call", nil, []int{4096, 4096, 1}, api.ErrFull},
		{"one more, ahead", nil, []int{1, 4096, 4096}, api.ErrFull},
		{"one more, by itself", []int{4096, 4096}, []int{1}, api.ErrFull},
		{"one more, upon a short one", []int{1}, []int{4096, 4096}, api.ErrFull},
		{"one more, over two calls", []int{4096}, []int{4096, 1}, api.ErrFull},
		{"one less and one", []int{4096, 4095}, []int{1}, api.OK},
		{"one less and two", []int{4096, 4095}, []int{2}, api.ErrFull},
		{"one less and one twice", []int{4096, 4095}, []int{1, 1}, api.ErrFull},
		{"eight that fill it", nil, []int{1024, 1024, 1024, 1024, 1024, 1024, 1024, 1024}, api.OK},
		{"eight with one more", nil, []int{1024, 1024, 1024, 1024, 1024, 1024, 1024, 1025}, api.ErrFull},
		{"eight over two calls", []int{1, 2, 3, 4}, []int{4096, 4071, 8, 7}, api.OK},
		{"eight over two calls with one more", []int{1, 2, 3, 4}, []int{4096, 4072, 8, 7}, api.ErrFull},
		{"three of the longest", []int{}, []int{4096, 4096, 4096}, api.ErrFull},
		{"none upon what is full", []int{4096, 4096}, []int{}, api.OK},
		{"too many of both kinds", []int{4096, 4096}, []int{1, 1, 1, 1, 1, 1, 1}, api.ErrFull},
		{"so many that 16 bits would not count them", nil, slices.Repeat([]int{4096}, 16), api.ErrFull},
	} {
		s := sluice.New()
		for _, n := range c.there {
			install(t, s, api.OK, 0, long(n, api.Log))
		}
		var programs [][]byte
		for _, n := range c.lengths {
			programs = append(programs, long(n, api.Trap))
		}
		if e, at := s.Install(programs...); e != c.e || at != 0 {
			t.Errorf("P8: %s: Install = %d, %d, want %d, 0", c.name, e, at, c.e)
		}
		verdict, whose := uint32(api.Allow), -1
		if len(c.there) > 0 {
			verdict, whose = api.Log, len(c.there)-1
		}
		if c.e == api.OK && len(c.lengths) > 0 {
			verdict, whose = api.Trap, len(c.there)+len(c.lengths)-1
		}
		judge(t, s, numbered(), verdict, whose)
	}
}

// TestP8WhatWasRefusedLeavesItsRoom: as often as it is refused, as much may be put there as if it had not been tried.
func TestP8WhatWasRefusedLeavesItsRoom(t *testing.T) {
	s := stackOf(t, long(4096, api.Log))
	for range 20 {
		install(t, s, api.ErrFull, 0, long(4096, 0), says(0))
		install(t, s, api.ErrLength, 1, long(4096, 0), nil)
		install(t, s, api.ErrCode, 2, says(0), says(0), sluice.Encode(insns{withK(0xffff, 0)}))
	}
	install(t, s, api.OK, 0, long(4090, api.Trace), says(api.Log), says(api.Log), says(api.Log), says(api.Log), says(api.Log), says(api.Log))
	judge(t, s, numbered(), api.Trace, 1)
}

// TestP8EachProgramRunsAnew: neither A, X nor a verdict of one program goes over to the next.
func TestP8EachProgramRunsAnew(t *testing.T) {
	leaves := sluice.Encode(insns{withK(api.LoadXK, api.Trap), withK(api.LoadK, api.Trap), withK(api.Store, 1), withK(api.RetK, api.Allow)})
	a := sluice.Encode(insns{withK(api.Or, api.Allow), end})
	x := sluice.Encode(insns{withK(api.FromX, 0), withK(api.Or, api.Allow), end})
	ends := sluice.Encode(insns{withK(api.LoadK, 7), withK(api.Div+api.ByX, 0), end})
	judge(t, stackOf(t, leaves, a), numbered(), api.Allow, 1)
	judge(t, stackOf(t, leaves, x), numbered(), api.Allow, 1)
	judge(t, stackOf(t, leaves, a, ends, x, leaves), numbered(), 0, 2)
}

func TestP8CompiledPrograms(t *testing.T) {
	p := oneTest(api.Test{Arg: 2, How: api.Less, Value: 1 << 40})
	p.Rules[0].Verdict, p.Else, p.Other = api.Refuse|13, api.Allow, api.Kill
	s := stackOf(t, sluice.Encode(compiled(t, p)), says(api.Log))
	judge(t, s, call(9, 3, sixArgs{2: 1<<40 - 1}), api.Refuse|13, 0)
	judge(t, s, call(9, 3, sixArgs{2: 1 << 40}), api.Log, 1)
	judge(t, s, call(9, 4, sixArgs{}), api.Kill, 0)
	install(t, s, api.ErrFull, 0, sluice.Encode(compiled(t, fullPolicy(api.Masked, func(n int) uint32 { return uint32(n) }))), long(4096, 0), long(4096, 0))
}

// model: a stack as the promise tells it, by the calls that are promised ahead of it.
type model struct{ programs []insns }

func (m *model) install(programs [][]byte) (api.Errno, int) {
	var fresh []insns
	for i, b := range programs {
		l, e := sluice.Decode(b)
		if e == api.OK {
			e, _ = sluice.Check(l)
		}
		if e != api.OK {
			return e, i
		}
		fresh = append(fresh, l)
	}
	all := slices.Concat(m.programs, fresh)
	if len(all) > 8 || len(slices.Concat(all...)) > 8192 {
		return api.ErrFull, 0
	}
	m.programs = all
	return api.OK, 0
}

func (m *model) judge(record string) (uint32, int, api.Errno) {
	if len(record) != 64 {
		return 0, 0, api.ErrRecord
	}
	order, counts, whose := actions(), len(actions()), -1
	verdict := uint32(0x7fff0000)
	for i, l := range m.programs {
		v, _, _ := sluice.Run(l, record)
		if place := max(0, slices.Index(order, v>>16)); place <= counts {
			verdict, whose, counts = v, i, place
		}
	}
	return verdict, whose, api.OK
}

// stackProgram: nearly always a right one; often long, or with a verdict of an action that is named.
func stackProgram(r *rand.Rand) []byte {
	switch r.Intn(20) {
	case 0:
		return sluice.Encode(wildProgram(r))
	case 1:
		return pick(r, wrongPrograms()).b
	case 2:
		return long(1+r.Intn(4100), pick(r, actions())<<16)
	case 3:
		return sluice.Encode(rightProgram(r))
	case 4:
		return saysWord(uint32(r.Intn(16) * 4))
	}
	return says(pick(r, actions())<<16 | r.Uint32()>>(16+r.Intn(16)))
}

func TestP8AnyStack(t *testing.T) {
	r := rand.New(rand.NewSource(20))
	seen := map[api.Errno]int{}
	for range 3000 {
		s, m := sluice.New(), model{}
		for range 1 + r.Intn(8) {
			var programs [][]byte
			for range r.Intn(5) {
				programs = append(programs, stackProgram(r))
			}
			e, at := s.Install(programs...)
			if wantE, wantAt := m.install(programs); e != wantE || at != wantAt {
				t.Fatalf("P8: Install of %x = %d, %d, want %d, %d", programs, e, at, wantE, wantAt)
			}
			seen[e]++
			record := wildRecord(r)
			v, whose, e := s.Judge(record)
			if wantV, wantWhose, wantE := m.judge(record); v != wantV || whose != wantWhose || e != wantE {
				t.Fatalf("P8: Judge of %x by %v = %#x, %d, %d, want %#x, %d, %d", record, m.programs, v, whose, e, wantV, wantWhose, wantE)
			}
		}
	}
	for e := api.OK; e <= api.ErrFull; e++ {
		if e != api.ErrRecord && e != api.ErrRules && seen[e] < 10 {
			t.Errorf("Install answered %d only %d times", e, seen[e])
		}
	}
}
