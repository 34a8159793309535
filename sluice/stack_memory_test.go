package sluice_test

import (
	"bytes"
	"math/rand"
	"slices"
	"strings"
	"testing"

	"sluice/api"
	"sluice/sluice"
)

// TestP1StacksOfAnything: wild bytes and records: Install and Judge end, and with an error all but the place is 0.
func TestP1StacksOfAnything(t *testing.T) {
	r := rand.New(rand.NewSource(21))
	for range 3000 {
		s := sluice.New()
		for range 5 {
			programs := make([][]byte, r.Intn(4))
			for i := range programs {
				programs[i] = stackProgram(r)
				if r.Intn(5) == 0 {
					programs[i] = make([]byte, r.Intn(60))
					r.Read(programs[i])
				}
			}
			e, at := s.Install(programs...)
			if at < 0 || at >= max(1, len(programs)) || (e == api.OK || e == api.ErrFull) && at != 0 {
				t.Fatalf("P1: Install of %x = %d, %d", programs, e, at)
			}
			record := wildRecord(r)
			v, whose, e := s.Judge(record)
			if (e == api.OK) != (len(record) == 64) || e != api.OK && (v != 0 || whose != 0) || whose < -1 || whose > 7 {
				t.Fatalf("P1: Judge of %x = %#x, %d, %d", record, v, whose, e)
			}
		}
	}
}

// roomyPrograms: programs with spare room behind each and behind their list that is filled.
func roomyPrograms(programs ...[]byte) [][]byte {
	l := make([][]byte, 0, len(programs)+2)
	for _, b := range programs {
		l = append(l, append(slices.Clone(b), "spare room"...)[:len(b)])
	}
	l = append(l, says(api.Kill), nil)
	return l[:len(programs)]
}

// allBytes: all that a list of programs holds, its spare room too, in lists of their own.
func allBytes(programs [][]byte) [][]byte {
	var l [][]byte
	for _, b := range programs[:cap(programs)] {
		l = append(l, []byte{byte(len(b)), byte(len(b) >> 8), byte(cap(b)), byte(cap(b) >> 8)}, slices.Clone(b[:cap(b)]))
	}
	return l
}

func TestP2InstallWritesNothing(t *testing.T) {
	r := rand.New(rand.NewSource(22))
	for range 2000 {
		var programs [][]byte
		for range r.Intn(11) {
			programs = append(programs, stackProgram(r))
		}
		programs = roomyPrograms(programs...)
		kept := allBytes(programs)
		record := wildRecord(r)
		keptRecord := strings.Clone(record)
		s := sluice.New()
		s.Install(programs...)
		s.Install(programs[:len(programs)/2]...)
		s.Judge(record)
		if !slices.EqualFunc(allBytes(programs), kept, bytes.Equal) || record != keptRecord {
			t.Fatalf("P2: Install or Judge changes what was handed in: %x", programs)
		}
	}
}

// TestP2AStackKeepsNothing: neither the list of programs nor their bytes are looked at again, nor is what was refused.
func TestP2AStackKeepsNothing(t *testing.T) {
	programs := roomyPrograms(says(api.Log|1), saysWord(0), long(4000, api.Log|3))
	s := stackOf(t, programs...)
	refused := roomyPrograms(says(api.Kill), nil)
	install(t, s, api.ErrLength, 1, refused...)
	record := call(api.Trap|9, 0, sixArgs{})
	for i := range programs {
		b := programs[i]
		programs[i] = says(api.Kill)
		judge(t, s, record, api.Trap|9, 1)
		scribble(b, 0)
		judge(t, s, record, api.Trap|9, 1)
	}
	refused[1] = says(api.Kill)
	scribble(programs, says(api.Kill))
	judge(t, s, record, api.Trap|9, 1)
	judge(t, s, call(api.Allow, 0, sixArgs{}), api.Log|3, 2)
}

// TestP2OneBufferForAllPrograms: programs that share memory with each other, and that are written anew from call to call.
func TestP2OneBufferForAllPrograms(t *testing.T) {
	s := sluice.New()
	buffer := make([]byte, 8)
	list := make([][]byte, 1)
	for i, v := range []uint32{api.Allow | 1, api.Log | 2, api.Trace | 3, api.Refuse | 4} {
		copy(buffer, says(v))
		list[0] = buffer
		install(t, s, api.OK, 0, list...)
		judge(t, s, numbered(), v, i)
	}
	copy(buffer, says(api.Kill))
	judge(t, s, numbered(), api.Refuse|4, 3)

	whole := append(says(api.Trap|1), says(api.Refuse|2)...)
	s = stackOf(t, whole[8:], whole[:8], whole)
	judge(t, s, numbered(), api.Trap|1, 2)
	scribble(whole, 0xff)
	judge(t, s, numbered(), api.Trap|1, 2)
}

// TestP2StacksSideBySide: each has its own programs, also where both were given the same list.
func TestP2StacksSideBySide(t *testing.T) {
	one, two, none := sluice.New(), sluice.New(), sluice.New()
	if one == two || one == none {
		t.Fatal("P2: New gives the same stack twice")
	}
	common := [][]byte{says(api.Log | 1), says(api.Trace | 2)}
	install(t, one, api.OK, 0, common...)
	judge(t, two, numbered(), api.Allow, -1)
	install(t, two, api.OK, 0, common...)
	install(t, one, api.OK, 0, says(api.Trap|3))
	judge(t, two, numbered(), api.Trace|2, 1)
	install(t, two, api.OK, 0, says(api.Refuse|4))
	judge(t, one, numbered(), api.Trap|3, 2)
	judge(t, two, numbered(), api.Refuse|4, 2)
	install(t, one, api.OK, 0, slices.Repeat([][]byte{says(api.Trap | 5)}, 5)...)
	install(t, one, api.ErrFull, 0, says(0))
	install(t, two, api.OK, 0, long(4096, api.Allow), long(4093, api.Allow))
	install(t, two, api.ErrFull, 0, says(0))
	judge(t, one, numbered(), api.Trap|5, 7)
	judge(t, two, numbered(), api.Refuse|4, 2)
	judge(t, none, numbered(), api.Allow, -1)
	judge(t, sluice.New(), numbered(), api.Allow, -1)
}

// TestP2JudgeTheSameAgain: Judge changes nothing: what was judged ahead does not matter.
func TestP2JudgeTheSameAgain(t *testing.T) {
	r := rand.New(rand.NewSource(23))
	for range 300 {
		s, again := sluice.New(), sluice.New()
		for range 8 {
			b := stackProgram(r)
			s.Install(b)
			again.Install(append(make([]byte, 0, len(b)+9), b...))
		}
		type answer struct {
			verdict uint32
			whose   int
			e       api.Errno
		}
		var records []string
		var first []answer
		for range 20 {
			record := wildRecord(r)
			v, whose, e := s.Judge(record)
			records, first = append(records, record), append(first, answer{v, whose, e})
		}
		for i, record := range slices.Backward(records) {
			for _, stack := range []*sluice.Stack{s, again} {
				if v, whose, e := stack.Judge(record); first[i] != (answer{v, whose, e}) {
					t.Fatalf("P2: Judge of %x, once more: %#x, %d, %d, was %+v", record, v, whose, e, first[i])
				}
			}
		}
	}
}
