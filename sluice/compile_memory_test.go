package sluice_test

import (
	"math"
	"math/rand"
	"slices"
	"testing"

	"sluice/api"
	"sluice/sluice"
)

// TestP1CompileOfAnyPolicy: policies that are wrong in any place: Compile ends, and with an error nothing else comes out.
func TestP1CompileOfAnyPolicy(t *testing.T) {
	r := rand.New(rand.NewSource(10))
	numbers := []int{math.MinInt, -1 << 32, -1, 0, 3, 5, 6, 7, 8, 1 << 32, math.MaxInt}
	for range 5000 {
		p := wildPolicy(r)
		want := api.OK
		for i := range p.Rules {
			if r.Intn(20) == 0 {
				p.Rules[i].Tests = append(p.Rules[i].Tests, make([]api.Test, r.Intn(8))...)
			}
			if len(p.Rules[i].Tests) > 6 {
				want = api.ErrRules
			}
			for j := range p.Rules[i].Tests {
				test := &p.Rules[i].Tests[j]
				if r.Intn(100) == 0 {
					test.Arg, test.How = pick(r, numbers), pick(r, numbers)
				}
				if test.Arg < 0 || test.Arg > 5 || test.How < 0 || test.How > 6 {
					want = api.ErrRules
				}
			}
		}
		if l, e := sluice.Compile(p); e != want || (l == nil) != (want == api.ErrRules) {
			t.Fatalf("P1: Compile of %+v: %+v, %d, want %d", p, l, e, want)
		}
	}
}

// roomy: a policy once more, with spare room behind each of its lists that is filled.
func roomy(p api.Policy) api.Policy {
	rules := slices.Clone(p.Rules)
	for i, r := range rules {
		tests := append(slices.Clone(r.Tests), api.Test{Arg: 77, How: 77, Value: 77, Mask: 77}, api.Test{Arg: 78})
		rules[i].Tests = tests[:len(r.Tests)]
	}
	p.Rules = append(rules, api.Rule{Number: 77, Tests: make([]api.Test, 9), Verdict: 77}, api.Rule{Number: 78})[:len(p.Rules)]
	return p
}

// spread: all that a policy holds, its spare room too, in lists of their own.
func spread(p api.Policy) ([]uint32, []api.Test) {
	numbers := []uint32{p.Arch, p.Else, p.Other, uint32(len(p.Rules)), uint32(cap(p.Rules))}
	var tests []api.Test
	for _, r := range p.Rules[:cap(p.Rules)] {
		numbers = append(numbers, r.Number, r.Verdict, uint32(len(r.Tests)), uint32(cap(r.Tests)))
		tests = append(tests, r.Tests[:cap(r.Tests)]...)
	}
	return numbers, tests
}

func scribblePolicy(p api.Policy) {
	for _, r := range p.Rules[:cap(p.Rules)] {
		scribble(r.Tests, api.Test{Arg: 99, How: 99, Value: 99, Mask: 99})
	}
	scribble(p.Rules, api.Rule{Number: 99, Verdict: 99})
}

// somePolicies: right ones, and some that are wrong.
func somePolicies(r *rand.Rand) []api.Policy {
	l := []api.Policy{{}, fullPolicy(api.Masked, func(n int) uint32 { return uint32(n) }), {Rules: make([]api.Rule, 41)}}
	for i := range 500 {
		p := wildPolicy(r)
		if i%10 == 0 {
			p.Rules = append(p.Rules, api.Rule{Tests: []api.Test{{Arg: 6}}})
		}
		l = append(l, p)
	}
	return l
}

func TestP2CompileWritesNothing(t *testing.T) {
	for _, p := range somePolicies(rand.New(rand.NewSource(11))) {
		p = roomy(p)
		numbers, tests := spread(p)
		sluice.Compile(p)
		if n, l := spread(p); !slices.Equal(n, numbers) || !slices.Equal(l, tests) {
			t.Fatalf("P2: Compile changes what was handed in: %+v", p)
		}
	}
}

func TestP2WhatIsCompiledIsNew(t *testing.T) {
	for _, p := range somePolicies(rand.New(rand.NewSource(12))) {
		p = roomy(p)
		numbers, tests := spread(p)
		first, _ := sluice.Compile(p)
		second, _ := sluice.Compile(p)
		kept := slices.Clone(first)
		scribble(first, withK(99, 99))
		third, _ := sluice.Compile(p)
		if !slices.Equal(second, kept) || !slices.Equal(third, kept) {
			t.Fatalf("P2: writing into what came out changes what comes out of %+v", p)
		}
		if n, l := spread(p); !slices.Equal(n, numbers) || !slices.Equal(l, tests) {
			t.Fatalf("P2: writing into what came out changes what was handed in: %+v", p)
		}
		scribblePolicy(p)
		if !slices.Equal(second, kept) || !slices.Equal(third, kept) {
			t.Fatalf("P2: writing into what was handed in changes what came out")
		}
	}
}

// TestP2CompileTheSameAgain: in another order, and whatever room a policy's lists have.
func TestP2CompileTheSameAgain(t *testing.T) {
	policies := somePolicies(rand.New(rand.NewSource(13)))
	var first []insns
	var errors []api.Errno
	for _, p := range policies {
		l, e := sluice.Compile(p)
		first, errors = append(first, l), append(errors, e)
	}
	for i, p := range slices.Backward(policies) {
		for _, p := range []api.Policy{p, roomy(p)} {
			if l, e := sluice.Compile(p); !slices.Equal(l, first[i]) || e != errors[i] {
				t.Fatalf("P2: Compile of %+v, once more: %+v, %d, was %+v, %d", p, l, e, first[i], errors[i])
			}
		}
	}
}
