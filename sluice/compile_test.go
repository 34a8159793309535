package sluice_test

import (
	"encoding/binary"
	"math"
	"math/rand"
	"slices"
	"testing"

	"sluice/api"
	"sluice/sluice"
)

type sixArgs = [6]uint64

// call: a record of a call; what no policy asks for is filled, so that reading it by mistake would show.
func call(number, arch uint32, args sixArgs) string {
	b := slices.Repeat([]byte{0xee}, 64)
	binary.LittleEndian.PutUint32(b, number)
	binary.LittleEndian.PutUint32(b[4:], arch)
	for i, a := range args {
		binary.LittleEndian.PutUint64(b[16+8*i:], a)
	}
	return string(b)
}

// compiled: the program of a policy, which Check must find right.
func compiled(t *testing.T, p api.Policy) insns {
	t.Helper()
	l, e := sluice.Compile(p)
	if e != api.OK {
		t.Fatalf("P7: Compile of %+v: %d", p, e)
	}
	if e, at := sluice.Check(l); e != api.OK {
		t.Fatalf("P7: Check of the program of %+v: %d, %d", p, e, at)
	}
	return l
}

// callCase: a policy's verdict on a record; name says what the case is about.
type callCase struct {
	name    string
	record  string
	verdict uint32
}

func runCallCases(t *testing.T, p api.Policy, cases []callCase) {
	t.Helper()
	l := compiled(t, p)
	for _, c := range cases {
		if v, _, e := sluice.Run(l, c.record); v != c.verdict || e != api.OK {
			t.Errorf("P7: %s: %+v on %x: %#x, %d, want %#x", c.name, p, c.record, v, e, c.verdict)
		}
	}
}

// oneTest: a policy whose verdict is 1 on calls 9 of arch 3 for which the tests hold.
func oneTest(tests ...api.Test) api.Policy {
	return api.Policy{Arch: 3, Rules: []api.Rule{{Number: 9, Tests: tests, Verdict: 1}}, Else: 2, Other: 4}
}

func oneOrTwo(holds bool) uint32 {
	if holds {
		return 1
	}
	return 2
}

// TestP7EachHow: an argument by how it is to a value in its upper and its lower word; which Hows hold is written out.
func TestP7EachHow(t *testing.T) {
	const value = 5<<32 | 7
	for _, c := range []struct {
		name  string
		a     uint64
		holds [6]bool // Equal, Unequal, Less, AtMost, More, AtLeast
	}{
		{"no word differs", 5<<32 | 7, [6]bool{true, false, false, true, false, true}},
		{"the lower is less", 5<<32 | 6, [6]bool{false, true, true, true, false, false}},
		{"the lower is more", 5<<32 | 8, [6]bool{false, true, false, false, true, true}},
		{"the upper is less", 4<<32 | 7, [6]bool{false, true, true, true, false, false}},
		{"the upper is more", 6<<32 | 7, [6]bool{false, true, false, false, true, true}},
		{"both are less", 4<<32 | 6, [6]bool{false, true, true, true, false, false}},
		{"both are more", 6<<32 | 8, [6]bool{false, true, false, false, true, true}},
		{"the upper is less, the lower more", 4<<32 | 8, [6]bool{false, true, true, true, false, false}},
		{"the upper is more, the lower less", 6<<32 | 6, [6]bool{false, true, false, false, true, true}},
		{"the upper alone is there", 5 << 32, [6]bool{false, true, true, true, false, false}},
		{"the lower alone is there", 7, [6]bool{false, true, true, true, false, false}},
		{"words changed", 7<<32 | 5, [6]bool{false, true, false, false, true, true}},
	} {
		for how, holds := range c.holds {
			for arg := range 6 {
				others := sixArgs{value, value, value, value, value, value} // one of them, read by mistake, would be equal
				others[arg] = c.a
				alone := sixArgs{}
				alone[arg] = c.a
				for _, mask := range []uint64{0, 1, math.MaxUint64} { // which only Masked asks for
					runCallCases(t, oneTest(api.Test{Arg: arg, How: how, Value: value, Mask: mask}), []callCase{
						{c.name, call(9, 3, others), oneOrTwo(holds)},
						{c.name + ", others 0", call(9, 3, alone), oneOrTwo(holds)},
						{c.name + ", of another number", call(8, 3, others), 2},
						{c.name + ", of another arch", call(9, 2, others), 4},
					})
				}
			}
		}
	}
}

func TestP7Masked(t *testing.T) {
	const all = math.MaxUint64
	for _, c := range []struct {
		name           string
		a, mask, value uint64
		holds          bool
	}{
		{"no bit counts", 0x1234, 0, 0, true},
		{"no bit counts, but a value", 0x1234, 0, 1, false},
		{"no bit counts, but a value above", 0x1234, 0, 1 << 32, false},
		{"all bits count", 5<<32 | 7, all, 5<<32 | 7, true},
		{"all bits count, the lowest differs", 5<<32 | 6, all, 5<<32 | 7, false},
		{"all bits count, the highest differs", 1<<63 | 7, all, 7, false},
		{"the lower word alone, the upper differs", 5<<32 | 7, 1<<32 - 1, 7, true},
		{"the lower word alone differs", 5<<32 | 6, 1<<32 - 1, 7, false},
		{"the upper word alone, the lower differs", 5<<32 | 7, 0xffffffff << 32, 5 << 32, true},
		{"the upper word alone differs", 4<<32 | 7, 0xffffffff << 32, 5 << 32, false},
		{"one bit below, which is 1", 0xff, 0x10, 0x10, true},
		{"one bit below, which is 0", 0xef, 0x10, 0x10, false},
		{"one bit below, to be 0", 0xef, 0x10, 0, true},
		{"one bit above, which is 1", all, 1 << 63, 1 << 63, true},
		{"one bit above, which is 0", all >> 1, 1 << 63, 1 << 63, false},
		{"one bit above, to be 0", all >> 1, 1 << 63, 0, true},
		{"both words, both are so", 0xabcdef01_23456789, 0xff0000ff_00ff0000, 0xab000001_00450000, true},
		{"both words, the upper is not", 0xaacdef01_23456789, 0xff0000ff_00ff0000, 0xab000001_00450000, false},
		{"both words, the lower is not", 0xabcdef01_23446789, 0xff0000ff_00ff0000, 0xab000001_00450000, false},
		{"the value has a bit that does not count", 0x11, 0x10, 0x11, false},
		{"the value has a bit above that does not count", 1<<40 | 0x10, 0x10, 1<<40 | 0x10, false},
		{"some of the mask's bits are not all of them", 0x10, 0x30, 0x30, false},
	} {
		for arg := range 6 {
			alone := sixArgs{}
			alone[arg] = c.a
			others := sixArgs{^c.a, ^c.a, ^c.a, ^c.a, ^c.a, ^c.a}
			others[arg] = c.a
			runCallCases(t, oneTest(api.Test{Arg: arg, How: api.Masked, Value: c.value, Mask: c.mask}), []callCase{
				{c.name, call(9, 3, alone), oneOrTwo(c.holds)},
				{c.name, call(9, 3, others), oneOrTwo(c.holds)},
			})
		}
	}
}

func edgeArgs() []uint64 {
	return []uint64{0, 1, 2, 1<<31 - 1, 1 << 31, 1<<32 - 1, 1 << 32, 1<<32 + 1, 1<<33 - 1, 5<<32 | 7, 5<<32 | 6, 4<<32 | 8, 7<<32 | 5, 1<<63 - 1, 1 << 63, 1<<63 + 1, math.MaxUint64 - 1, math.MaxUint64, 0xffffffff << 32}
}

// holdsByPromise: whether a test holds, as the promise has it, on whole arguments.
func holdsByPromise(t api.Test, args sixArgs) bool {
	switch a := args[t.Arg]; t.How {
	case api.Equal:
		return a == t.Value
	case api.Unequal:
		return a != t.Value
	case api.Less:
		return a < t.Value
	case api.AtMost:
		return a <= t.Value
	case api.More:
		return a > t.Value
	case api.AtLeast:
		return a >= t.Value
	default:
		return a&t.Mask == t.Value
	}
}

func TestP7NumbersWithoutSigns(t *testing.T) {
	for how := range 7 {
		for _, value := range edgeArgs() {
			for _, mask := range []uint64{0, math.MaxUint64, 1<<32 - 1, 0xff << 32, 1 << 63, 1 << 31} {
				test := api.Test{Arg: 2, How: how, Value: value, Mask: mask}
				var cases []callCase
				for _, a := range edgeArgs() {
					args := sixArgs{2: a}
					cases = append(cases, callCase{"edges", call(9, 3, args), oneOrTwo(holdsByPromise(test, args))})
				}
				runCallCases(t, oneTest(test), cases)
			}
		}
	}
}

// TestP7AllTestsOfARule: six tests, of each How, of which all hold, or one does not.
func TestP7AllTestsOfARule(t *testing.T) {
	args := sixArgs{10, 1<<32 | 20, 30 << 32, 40, 1 << 63, 60}
	for how := range 7 {
		for number := range 7 {
			var tests []api.Test
			for arg := range number {
				test := api.Test{Arg: arg, How: how, Value: args[arg], Mask: math.MaxUint64}
				switch how {
				case api.Unequal, api.Less:
					test.Value++
				case api.More:
					test.Value--
				}
				tests = append(tests, test)
			}
			runCallCases(t, oneTest(tests...), []callCase{
				{"all hold", call(9, 3, args), 1},
				{"all hold, another number", call(10, 3, args), 2},
				{"all hold, another arch", call(9, 9, args), 4},
			})
			for arg := range number {
				some := args
				switch how {
				case api.Equal, api.AtMost, api.Unequal, api.Less, api.Masked:
					some[arg]++
				case api.More, api.AtLeast:
					some[arg]--
				}
				runCallCases(t, oneTest(tests...), []callCase{{"one does not hold", call(9, 3, some), 2}})
			}
		}
	}
}

func TestP7SeveralTestsOfOneArgument(t *testing.T) {
	between := oneTest(api.Test{Arg: 4, How: api.AtLeast, Value: 5 << 32}, api.Test{Arg: 4, How: api.Less, Value: 5<<32 | 10}, api.Test{Arg: 4, How: api.Unequal, Value: 5<<32 | 3})
	for _, c := range []struct {
		a     uint64
		holds bool
	}{{5 << 32, true}, {5<<32 - 1, false}, {5<<32 | 9, true}, {5<<32 | 10, false}, {5<<32 | 3, false}, {5<<32 | 2, true}, {3, false}, {6 << 32, false}} {
		runCallCases(t, between, []callCase{{"between", call(9, 3, sixArgs{4: c.a}), oneOrTwo(c.holds)}})
	}
	never := oneTest(api.Test{How: api.Equal, Value: 1}, api.Test{How: api.Equal, Value: 2})
	for a := range uint64(4) {
		runCallCases(t, never, []callCase{{"never", call(9, 3, sixArgs{a}), 2}})
	}
}

func TestP7TheFirstRuleThatFits(t *testing.T) {
	is := func(arg int, v uint64) api.Test { return api.Test{Arg: arg, How: api.Equal, Value: v} }
	p := api.Policy{Arch: 1, Else: 60, Other: 70, Rules: []api.Rule{
		{Number: 5, Tests: []api.Test{is(0, 7), is(1, 9)}, Verdict: 10},
		{Number: 6, Verdict: 20},
		{Number: 5, Tests: []api.Test{is(0, 7)}, Verdict: 30},
		{Number: 6, Verdict: 40},
		{Number: 5, Tests: []api.Test{is(0, 7)}, Verdict: 45},
		{Number: 5, Verdict: 50},
		{Number: 8, Tests: []api.Test{is(0, 7)}, Verdict: 55},
	}}
	runCallCases(t, p, []callCase{
		{"the first one", call(5, 1, sixArgs{7, 9}), 10},
		{"a later one with the number", call(5, 1, sixArgs{7, 8}), 30},
		{"the last one with the number", call(5, 1, sixArgs{6, 9}), 50},
		{"the first of two without tests", call(6, 1, sixArgs{}), 20},
		{"the last rule of all", call(8, 1, sixArgs{7}), 55},
		{"the last rule's number, its test fails", call(8, 1, sixArgs{6}), 60},
		{"no rule's number", call(7, 1, sixArgs{7, 9}), 60},
		{"another arch", call(5, 2, sixArgs{7, 9}), 70},
		{"another arch, no rule's number", call(7, 0, sixArgs{7, 9}), 70},
	})
}

// TestP7NumberAndArch: they are compared in all of their 32 bits, and not taken for each other.
func TestP7NumberAndArch(t *testing.T) {
	for _, number := range edgeNumbers() {
		for _, arch := range edgeNumbers() {
			p := api.Policy{Arch: arch, Rules: []api.Rule{{Number: number, Verdict: 1}}, Else: 2, Other: 4}
			cases := []callCase{{"both are so", call(number, arch, sixArgs{}), 1}}
			for bit := range 32 {
				cases = append(cases,
					callCase{"another number", call(number^1<<bit, arch, sixArgs{}), 2},
					callCase{"another arch", call(number, arch^1<<bit, sixArgs{}), 4},
					callCase{"another number and arch", call(number^1<<bit, arch^1<<bit, sixArgs{}), 4})
			}
			runCallCases(t, p, cases)
		}
	}
}

func TestP7NoRules(t *testing.T) {
	for _, rules := range [][]api.Rule{nil, {}} {
		runCallCases(t, api.Policy{Arch: 1, Rules: rules, Else: 2, Other: 3}, []callCase{
			{"its arch", call(0, 1, sixArgs{}), 2},
			{"its arch, any number", call(1, 1, sixArgs{}), 2},
			{"another arch", call(0, 0, sixArgs{}), 3},
		})
	}
	runCallCases(t, api.Policy{}, []callCase{{"a policy of noughts", call(0, 0, sixArgs{}), 0}})
}

func TestP7AnyVerdict(t *testing.T) {
	for _, v := range append(edgeNumbers(), api.Kill, api.Trap, api.Refuse, api.Notify, api.Trace, api.Log, api.Allow) {
		p := api.Policy{Arch: 1, Rules: []api.Rule{{Number: 5, Verdict: v}}, Else: v + 1, Other: v + 2}
		runCallCases(t, p, []callCase{
			{"a rule's", call(5, 1, sixArgs{}), v},
			{"Else", call(6, 1, sixArgs{}), v + 1},
			{"Other", call(5, 2, sixArgs{}), v + 2},
		})
	}
}

// fullPolicy: 40 rules of six tests, of which rule n alone fits the call fullCall(n).
func fullPolicy(how int, number func(n int) uint32) api.Policy {
	p := api.Policy{Arch: 1, Else: 1000, Other: 2000}
	for n := range 40 {
		r := api.Rule{Number: number(n), Verdict: uint32(n)}
		for arg := range 6 {
			test := api.Test{Arg: arg, How: how, Value: fullArg(n), Mask: ^uint64(1<<40 | 1<<8)}
			switch how { // all rules ahead fail on calls of a later one
			case api.Unequal:
				test.Value = fullArg(n + 1)
			case api.Less, api.AtMost:
				test.Value += 1
			case api.More, api.AtLeast:
				test.Value = fullArg(40-n) - 1
			}
			r.Tests = append(r.Tests, test)
		}
		p.Rules = append(p.Rules, r)
	}
	return p
}

func fullArg(n int) uint64 { return uint64(n)<<32 | uint64(100-n) }

// TestP7AsManyAsThereMayBe: 40 rules of six tests, and each is reached: by its number, and, where all have one number, by its tests.
func TestP7AsManyAsThereMayBe(t *testing.T) {
	for how := range 7 {
		p := fullPolicy(how, func(n int) uint32 { return uint32(n) })
		all := fullPolicy(how, func(int) uint32 { return 7 })
		for n := range 40 {
			a := fullArg(n)
			if how == api.More || how == api.AtLeast {
				a = fullArg(40 - n)
			}
			args := sixArgs{a, a, a, a, a, a}
			runCallCases(t, p, []callCase{
				{"by its number", call(uint32(n), 1, args), uint32(n)},
				{"no number", call(40, 1, args), 1000},
				{"another arch", call(uint32(n), 3, args), 2000},
			})
			if how != api.Unequal { // which all but one rule hold for
				runCallCases(t, all, []callCase{{"by its tests", call(7, 1, args), uint32(n)}})
			}
			args[n%6] = 200<<32 | 1
			if how == api.More || how == api.AtLeast {
				args[n%6] = 0
			}
			if how == api.Unequal {
				args[n%6] = fullArg(n + 1)
			}
			runCallCases(t, p, []callCase{{"one test fails", call(uint32(n), 1, args), 1000}})
		}
	}
}

// TestP7LongestRules: of each How, with the longest tests behind it: it fails by its upper word or its lower, on to the next rule.
func TestP7LongestRules(t *testing.T) {
	const value = 5<<32 | 7
	for how := range 7 {
		tests := []api.Test{{Arg: 0, How: how, Value: value, Mask: ^uint64(1<<40 | 1<<8)}}
		for arg := 1; arg < 6; arg++ {
			tests = append(tests, api.Test{Arg: arg, How: api.Masked, Value: 1<<32 | 1, Mask: 3<<32 | 3})
		}
		p := oneTest(tests...)
		p.Rules = slices.Repeat(p.Rules, 40)
		p.Rules[39].Tests, p.Rules[39].Verdict = nil, 3
		for _, a := range []uint64{value, value - 1, value + 1, 4<<32 | 7, 6<<32 | 7, 4<<32 | 8, 6<<32 | 6} {
			args := sixArgs{a, 1<<32 | 1, 5<<32 | 1, 1<<32 | 5, 9<<32 | 9, 1<<32 | 1}
			want := uint32(3)
			if holdsByPromise(tests[0], args) {
				want = 1
			}
			others := args
			others[5] = 0
			runCallCases(t, p, []callCase{
				{"the longest rules", call(9, 3, args), want},
				{"the last test fails", call(9, 3, others), 3},
				{"another number", call(8, 3, args), 2},
			})
		}
	}
}

func TestP7RulesThatMayNotBe(t *testing.T) {
	right := api.Test{Arg: 5, How: api.Masked}
	full := slices.Repeat([]api.Test{right}, 6)
	bad := func(arg, how int) api.Policy {
		tests := append(slices.Clone(full[:5]), api.Test{Arg: arg, How: how})
		return api.Policy{Rules: append(slices.Repeat([]api.Rule{{Tests: full}}, 39), api.Rule{Tests: tests})}
	}
	cases := map[string]api.Policy{
		"41 rules":                     {Rules: make([]api.Rule, 41)},
		"42 rules":                     {Rules: make([]api.Rule, 42)},
		"very many rules":              {Rules: make([]api.Rule, 5000)},
		"seven tests":                  {Rules: []api.Rule{{Tests: make([]api.Test, 7)}}},
		"very many tests":              {Rules: []api.Rule{{Tests: make([]api.Test, 5000)}}},
		"seven tests in the last rule": {Rules: append(make([]api.Rule, 39), api.Rule{Tests: make([]api.Test, 7)})},
		"41 rules of seven tests":      {Rules: slices.Repeat([]api.Rule{{Tests: make([]api.Test, 7)}}, 41)},
		"the first test":               {Rules: []api.Rule{{Tests: []api.Test{{Arg: 6}, right}}}},
		"an Arg and a How":             bad(-1, 7),
	}
	for _, n := range []int{-1, 6, 7, 256, -256, 1 << 32, 1<<32 + 5, math.MaxInt, math.MinInt} {
		l, e := sluice.Compile(bad(n, 0))
		if l != nil || e != api.ErrRules {
			t.Errorf("P7: an Arg of %d: %v, %d", n, l, e)
		}
	}
	for _, n := range []int{-1, 7, 8, 256, -256, 1 << 32, 1<<32 + 5, math.MaxInt, math.MinInt} {
		l, e := sluice.Compile(bad(0, n))
		if l != nil || e != api.ErrRules {
			t.Errorf("P7: a How of %d: %v, %d", n, l, e)
		}
	}
	for name, p := range cases {
		if l, e := sluice.Compile(p); l != nil || e != api.ErrRules {
			t.Errorf("P7: %s: %v, %d", name, l, e)
		}
	}
	for arg := range 6 {
		for how := range 7 {
			compiled(t, bad(arg, how)) // these may be
		}
	}
}

// byPromise: a policy's verdict, read off the record word by word, and whose it is: a rule's number, or -1 Else, -2 Other.
func byPromise(p api.Policy, record string) (uint32, int) {
	word := func(at int) uint32 { return binary.LittleEndian.Uint32([]byte(record[at : at+4])) }
	var args sixArgs
	for i := range args {
		args[i] = uint64(word(20+8*i))<<32 + uint64(word(16+8*i))
	}
	if word(4) != p.Arch {
		return p.Other, -2
	}
rules:
	for n, r := range p.Rules {
		if r.Number != word(0) {
			continue
		}
		for _, test := range r.Tests {
			if !holdsByPromise(test, args) {
				continue rules
			}
		}
		return r.Verdict, n
	}
	return p.Else, -1
}

func pick[T any](r *rand.Rand, l []T) T { return l[r.Intn(len(l))] }

// wildPolicy: what is right, of few numbers and arguments, so that they often are the same.
func wildPolicy(r *rand.Rand) api.Policy {
	p := api.Policy{Arch: pick(r, edgeNumbers()[:3]), Else: r.Uint32(), Other: r.Uint32()}
	for range r.Intn(41) >> r.Intn(5) {
		rule := api.Rule{Number: pick(r, edgeNumbers()[:4]), Verdict: r.Uint32()}
		for range r.Intn(7) {
			test := api.Test{Arg: r.Intn(6), How: r.Intn(7), Value: pick(r, edgeArgs()), Mask: pick(r, edgeArgs())}
			if test.How == api.Masked && r.Intn(4) > 0 { // else it would hardly ever hold
				test.Value &= test.Mask
			}
			rule.Tests = append(rule.Tests, test)
		}
		p.Rules = append(p.Rules, rule)
	}
	return p
}

func wildCall(r *rand.Rand) string {
	var args sixArgs
	for i := range args {
		args[i] = pick(r, edgeArgs())
		if r.Intn(5) == 0 {
			args[i] = r.Uint64()
		}
	}
	return call(pick(r, edgeNumbers()[:4]), pick(r, edgeNumbers()[:3]), args)
}

// TestP7AnyPolicy holds what was compiled against the promise's own words.
func TestP7AnyPolicy(t *testing.T) {
	r := rand.New(rand.NewSource(9))
	whose := map[int]int{}
	for range 4000 {
		p := wildPolicy(r)
		l := compiled(t, p)
		for range 25 {
			record := wildCall(r)
			want, n := byPromise(p, record)
			whose[n]++
			if v, _, e := sluice.Run(l, record); v != want || e != api.OK {
				t.Fatalf("P7: %+v on %x: %#x, %d, want %#x (%d)", p, record, v, e, want, n)
			}
		}
	}
	for _, n := range []int{-2, -1, 0, 1, 2, 5, 10} {
		if whose[n] < 100 {
			t.Errorf("verdicts of %d were asked for %d times only", n, whose[n])
		}
	}
}
