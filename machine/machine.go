// Package machine: what programs do when they are run (P6).
package machine

import "sluice/api"

// machine is one run: its registers, and where it stands.
type machine struct {
	registers
	record  string
	next    int // the instruction that is run next
	ended   bool
	verdict uint32
}

// Run runs a program on a record: its verdict, and how many instructions were run.
// Nothing is checked here: the program is one that package check finds right, the record has api.RecordSize bytes.
// So the run ends: all ways go forward, and the last instruction is an ending one.
func Run(l []api.Insn, record string) (verdict uint32, steps int) {
	table := effects()
	m := machine{record: record}
	for !m.ended {
		in := l[m.next]
		m.next++
		steps++
		table[in.Code](&m, in)
	}
	return m.verdict, steps
}

func (m *machine) loadAt(in api.Insn) {
	word := m.record[in.K : in.K+wordSize]
	m.a = uint32(word[0]) | uint32(word[1])<<8 | uint32(word[2])<<16 | uint32(word[3])<<24
}

func (m *machine) div(in api.Insn) {
	if by := m.divisor(in); by != 0 {
		m.a /= by
	}
}

func (m *machine) mod(in api.Insn) {
	if by := m.divisor(in); by != 0 {
		m.a %= by
	}
}

// divisor is what to divide by. If that is 0 the run ends: K never is in a checked program, but X may be.
func (m *machine) divisor(in api.Insn) uint32 {
	by := m.operand(in)
	if by == 0 {
		m.end(0)
	}
	return by
}

func (m *machine) jump(in api.Insn) { m.next += int(in.K) }

func (m *machine) ifEqual(in api.Insn) { m.branch(in, m.a == m.operand(in)) }

func (m *machine) ifMore(in api.Insn) { m.branch(in, m.a > m.operand(in)) }

func (m *machine) ifLeast(in api.Insn) { m.branch(in, m.a >= m.operand(in)) }

func (m *machine) ifBits(in api.Insn) { m.branch(in, m.a&m.operand(in) != 0) }

func (m *machine) branch(in api.Insn, holds bool) {
	over := in.Jf
	if holds {
		over = in.Jt
	}
	m.next += int(over)
}

func (m *machine) retK(in api.Insn) { m.end(in.K) }

func (m *machine) retA(in api.Insn) { m.end(m.a) }

func (m *machine) end(verdict uint32) { m.ended, m.verdict = true, verdict }
