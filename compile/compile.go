// Package compile: programs made of policies (P7).
package compile

import (
	"slices"

	"sluice/api"
)

// Where a record has its words.
const (
	numberAt = 0
	archAt   = 4
	argsAt   = 16
	wordSize = 4
)

// Policy makes a program of a policy: ErrRules, if its rules may not be.
// It is made from its last instruction to its first: so it is known at each how far those behind it reach.
func Policy(p api.Policy) ([]api.Insn, api.Errno) {
	if !mayBe(p.Rules) {
		return nil, api.ErrRules
	}
	l := ahead(nil, verdict(p.Else))
	for _, r := range slices.Backward(p.Rules) {
		l = ahead(l, rule(r, l[0])...)
	}
	return ahead(l, load(archAt), branch(api.IfEqual, p.Arch, 1, 0), verdict(p.Other)), api.OK
}

func mayBe(rules []api.Rule) bool {
	if len(rules) > api.MaxRules {
		return false
	}
	for _, r := range rules {
		if len(r.Tests) > api.MaxTests || slices.ContainsFunc(r.Tests, wrong) {
			return false
		}
	}
	return true
}

func wrong(t api.Test) bool {
	return t.Arg < 0 || t.Arg >= api.Args || t.How < api.Equal || t.How > api.Masked
}

// rule makes instructions that end with the rule's verdict if it fits, and else go on behind themselves, with next.
// If the number is another one it is still in A then, so that next is passed over if all it does is to load it again.
func rule(r api.Rule, next api.Insn) []api.Insn {
	l := ahead(nil, verdict(r.Verdict))
	for _, t := range slices.Backward(r.Tests) {
		l = ahead(l, test(t, len(l))...)
	}
	over := len(l)
	if next == load(numberAt) {
		over++
	}
	return ahead(l, load(numberAt), branch(api.IfEqual, r.Number, 0, over))
}

// ahead puts instructions ahead of a list, in new memory.
func ahead(l []api.Insn, first ...api.Insn) []api.Insn { return slices.Concat(first, l) }

func load(at uint32) api.Insn { return api.Insn{Code: api.LoadAt, K: at} }

func verdict(v uint32) api.Insn { return api.Insn{Code: api.RetK, K: v} }

// branch is a test of A that passes over so many if it holds, and so many if not.
// Both fit into 8 bits: no branch goes farther than behind its rule, and the longest rule has 39 instructions.
func branch(code uint16, k uint32, yes, no int) api.Insn {
	return api.Insn{Code: code, Jt: uint8(yes), Jf: uint8(no), K: k}
}
