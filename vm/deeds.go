package vm

import (
	"slices"

	"prompter/api"
	"prompter/oper"
	"prompter/value"
)

// deed is what an instruction does, once its step is paid and the next place is the one behind it.
type deed func(s *strand, in *api.Instr)

// deedTable is what instructions do, each at the place of its Op.
type deedTable [api.IVersion + 1]deed

// deeds is the table of all instructions.
func deeds() deedTable {
	table := deedTable{
		api.IJump: (*strand).jump, api.IBranch: (*strand).branch, api.IOr: (*strand).or, api.IAnd: (*strand).and, api.IBool: (*strand).bool,
		api.IDrop: (*strand).drop, api.IReturn: (*strand).end, api.IFail: (*strand).fail, api.ISleep: (*strand).sleep,
		api.INone: (*strand).literal, api.ITrue: (*strand).literal, api.IFalse: (*strand).literal, api.IInt: (*strand).literal,
		api.IText: (*strand).literal, api.IVersion: (*strand).literal, api.IList: (*strand).list,
		api.ILoad: (*strand).load, api.IStore: (*strand).store, api.IEnd: (*strand).end,
		api.ICall: (*strand).ask, api.IChild: (*strand).ask, api.ITimer: (*strand).timer, api.IFork: (*strand).fork,
		api.IAwait: (*strand).await, api.ISettle: (*strand).settle, api.ITake: (*strand).take,
	}
	for op := api.OEq; op <= api.OAt; op++ {
		table[op] = (*strand).binary
	}
	for op := api.ONot; op <= api.OConj; op++ {
		table[op] = (*strand).unary
	}
	return table
}

func (s *strand) jump(in *api.Instr) { s.place = in.A }

func (s *strand) branch(in *api.Instr) {
	if !need(oper.Truth(s.stack.take())) {
		s.place = in.A
	}
}

func (s *strand) or(in *api.Instr)  { s.either(in, true) }
func (s *strand) and(in *api.Instr) { s.either(in, false) }

// either passes by what comes next, if what is on top is known to be the outcome.
func (s *strand) either(in *api.Instr, outcome bool) {
	if need(oper.Truth(s.stack.top())) == outcome {
		s.place = in.A
	} else {
		s.stack.take()
	}
}

func (s *strand) bool(*api.Instr) { need(oper.Truth(s.stack.top())) }

func (s *strand) drop(*api.Instr) { s.stack.take() }

func (s *strand) end(in *api.Instr) {
	v := value.None()
	if in.Op == api.IReturn {
		v = s.stack.take()
	}
	s.finish(v)
}

func (s *strand) fail(*api.Instr) {
	s.machine.close(api.Event{Kind: api.EvFailed, Value: s.stack.take()})
}

func (s *strand) literal(in *api.Instr) {
	var v api.Value
	switch in.Op {
	case api.INone:
		v = value.None()
	case api.ITrue, api.IFalse:
		v = value.Bool(in.Op == api.ITrue)
	case api.IInt:
		v = value.Int(in.Int)
	case api.IText:
		v = need(value.Text(in.Text))
	case api.IVersion:
		v = value.Int(s.machine.version)
	}
	s.stack.put(v)
}

func (s *strand) list(in *api.Instr) {
	s.stack.put(need(oper.List(s.stack.takeRow(in.A))))
}

func (s *strand) load(in *api.Instr)  { s.stack.put(s.slots[in.A]) }
func (s *strand) store(in *api.Instr) { s.slots[in.A] = s.stack.take() }

func (s *strand) binary(in *api.Instr) {
	b, a := s.stack.take(), s.stack.take()
	s.stack.put(need(oper.Binary(in.Op, a, b)))
}

func (s *strand) unary(in *api.Instr) {
	s.stack.put(need(oper.Unary(in.Op, s.stack.take())))
}

func (s *strand) ask(in *api.Instr) {
	x := api.Event{Kind: api.EvCalled, Name: in.Text, Value: need(oper.List(s.stack.takeRow(in.A)))}
	if in.Op == api.IChild {
		x.Kind = api.EvAsked
	}
	s.putHandle(s.machine.order(x))
}

// putHandle puts a handle's number on the stack.
func (s *strand) putHandle(number int) {
	s.stack.put(value.Int(int64(number)))
}

func (s *strand) timer(*api.Instr) { s.putHandle(s.newTimer()) }

// newTimer orders a timer that is as long as what is on top says, and tells its handle.
func (s *strand) newTimer() int {
	return s.machine.order(api.Event{Kind: api.EvTimed, Int: max(number(s.stack.take()), 0)})
}

func (s *strand) sleep(*api.Instr) { s.awaits(s.newTimer(), (*strand).slept) }

func (s *strand) fork(in *api.Instr) {
	if len(s.machine.strands) == api.MaxStrands {
		panic(api.ErrOpen)
	}
	own := s.machine.newHandle(ofStrand)
	s.machine.begin(in.A, own, slices.Clone(s.slots))
	s.putHandle(own)
}

func (s *strand) await(*api.Instr)  { s.awaits(s.named(s.stack.take()), (*strand).awaited) }
func (s *strand) settle(*api.Instr) { s.awaits(s.named(s.stack.take()), (*strand).settled) }

func (s *strand) take(in *api.Instr) { s.signal, s.wait = in.Text, (*strand).taken }
