// Package sluice: small programs that say what is to be done with a call: see DOC.md.
package sluice

import (
	"sluice/api"
	"sluice/check"
	"sluice/compile"
	"sluice/machine"
	"sluice/stack"
	"sluice/wire"
)

// Decode reads instructions from bytes (P3).
func Decode(b []byte) ([]api.Insn, api.Errno) { return wire.Decode(b) }

// Encode writes instructions as bytes (P3).
func Encode(l []api.Insn) []byte { return wire.Encode(l) }

// Check looks whether instructions are a program; what is wrong, and where (P4, P5).
func Check(l []api.Insn) (api.Errno, int) { return check.Program(l) }

// Run runs a program on a record: its verdict, its steps (P6).
func Run(l []api.Insn, record string) (uint32, int, api.Errno) {
	if e, _ := check.Program(l); e != api.OK {
		return 0, 0, e
	}
	if len(record) != api.RecordSize {
		return 0, 0, api.ErrRecord
	}
	verdict, steps := machine.Run(l, record)
	return verdict, steps, api.OK
}

// Compile makes a program of rules (P7).
func Compile(p api.Policy) ([]api.Insn, api.Errno) { return compile.Policy(p) }

// Stack is programs, one upon the other.
type Stack struct {
	programs stack.Programs
}

// New makes a stack of none (P8).
func New() *Stack { return &Stack{} }

// Install puts programs upon a stack, all or none (P8).
func (s *Stack) Install(programs ...[]byte) (api.Errno, int) { return s.programs.Install(programs...) }

// Judge tells the verdict of a stack on a record, and whose it is (P8).
func (s *Stack) Judge(record string) (uint32, int, api.Errno) {
	if len(record) != api.RecordSize {
		return 0, 0, api.ErrRecord
	}
	verdict, whose := s.programs.Judge(record)
	return verdict, whose, api.OK
}
