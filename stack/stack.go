// Package stack: programs one upon the other, and the strictest of their verdicts (P8).
package stack

import (
	"slices"

	"sluice/api"
	"sluice/check"
	"sluice/machine"
	"sluice/wire"
)

// Programs are in the order in which they were installed.
// They stand in an array, so that a copy of it is apart from what it was copied from.
type Programs struct {
	installed [api.MaxFilters][]api.Insn
	count     int
}

// Install puts programs upon the others: if one is wrong its error, and which it is; if it is too much ErrFull.
// They are put upon a copy, which takes the place of what was there only if all is right.
func (p *Programs) Install(programs ...[]byte) (api.Errno, int) {
	grown := *p
	for i, b := range programs {
		l, e := program(b)
		if e != api.OK {
			return e, i
		}
		grown.put(l)
	}
	if grown.tooMuch() {
		return api.ErrFull, 0
	}
	*p = grown
	return api.OK, 0
}

// program reads a program that can be run without any further check.
func program(b []byte) ([]api.Insn, api.Errno) {
	l, e := wire.Decode(b)
	if e != api.OK {
		return nil, e
	}
	e, _ = check.Program(l)
	return l, e
}

// put puts one program upon the others. One for which there is no room is only counted, and Install goes on:
// one behind it may be wrong, and that is named ahead of ErrFull.
func (p *Programs) put(l []api.Insn) {
	if p.count < api.MaxFilters {
		p.installed[p.count] = l
	}
	p.count++
}

func (p *Programs) tooMuch() bool {
	together := 0
	for _, l := range p.installed {
		together += len(l)
	}
	return p.count > api.MaxFilters || together > api.MaxTotal
}

// Judge tells the strictest verdict on a record of api.RecordSize bytes, and whose it is: the last one's, of several.
// No verdict is milder than the one to begin with, so that it stays only where there is no program.
func (p *Programs) Judge(record string) (verdict uint32, whose int) {
	verdict, whose = api.Allow, -1
	for i, l := range p.installed[:p.count] {
		if v, _ := machine.Run(l, record); mildness(v) <= mildness(verdict) {
			verdict, whose = v, i
		}
	}
	return verdict, whose
}

// mildness tells how far a verdict's action is from the strictest. Kill is not listed: it is as strict as any that is not.
func mildness(verdict uint32) int {
	listed := []uint32{api.Stop, api.Trap, api.Refuse, api.Notify, api.Trace, api.Log, api.Allow}
	return 1 + slices.Index(listed, verdict&api.Actions)
}
