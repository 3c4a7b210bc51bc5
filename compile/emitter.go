package compile

import "prompter/api"

// emitter is code, as far as it is written.
type emitter struct{ code []api.Instr }

// here is the place of the instruction that comes next.
func (m *emitter) here() int { return len(m.code) }

// put writes an instruction.
func (m *emitter) put(in api.Instr) { m.code = append(m.code, in) }

// op writes an instruction without fields.
func (m *emitter) op(op byte) { m.put(api.Instr{Op: op}) }

// goTo writes an instruction whose target is known.
func (m *emitter) goTo(op byte, target int) { m.put(api.Instr{Op: op, A: target}) }

// hole writes an instruction whose target is not known yet: it is where fill is called.
func (m *emitter) hole(op byte) (fill func()) {
	at := m.here()
	m.op(op)
	return func() { m.code[at].A = m.here() }
}
