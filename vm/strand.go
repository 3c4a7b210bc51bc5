package vm

import (
	"slices"

	"prompter/api"
	"prompter/oper"
	"prompter/value"
)

// none is no handle's number.
const none = -1

// strand is a strand of a machine.
type strand struct {
	machine *Machine
	own     int // the number of its handle; none of strand 0
	place   int // of the instruction that comes next
	slots   []api.Value
	stack   stack[api.Value]
	ended   bool
	wait    func(s *strand) bool // goes on behind what the strand waits for, if that is there; nil if it doesn't wait
	handle  int                  // the one that it waits for, if it does
	signal  string               // the name of the signal that it waits for, if it does
}

// broken is a fault: the code of a handle that a strand waited for.
type broken int64

// goOn goes as far as it can, and tells whether that was anywhere. A fault, which is thrown, closes the run.
func (s *strand) goOn(table *deedTable) (went bool) {
	defer func() {
		switch x := recover().(type) {
		case nil:
		case api.Errno:
			s.machine.close(api.Event{Kind: api.EvFaulted, Int: int64(x)})
		case broken:
			s.machine.close(api.Event{Kind: api.EvFaulted, Int: int64(x)})
		default: // none of a machine's own
			panic(x)
		}
	}()
	for !s.ended && !s.machine.closed && s.move(table) {
		went = true
	}
	return went
}

// move does what the next instruction says, or goes on behind what the strand waits for; it tells whether it could.
func (s *strand) move(table *deedTable) bool {
	if s.wait != nil {
		if !s.wait(s) {
			return false
		}
		s.wait = nil
		return true
	}
	in := &s.machine.code[s.place]
	s.place++ // unless the instruction says otherwise
	if !isFree(in.Op) {
		s.machine.pay()
	}
	table[in.Op](s, in)
	return true
}

// isFree tells whether an instruction costs no step.
func isFree(op byte) bool {
	return op == api.IJump || op == api.IBool || op == api.IEnd
}

// twin is a strand of the machine m, that is as this one.
func (s *strand) twin(m *Machine) *strand {
	t := *s
	t.machine, t.slots, t.stack = m, slices.Clone(s.slots), s.stack.twin()
	return &t
}

// finish ends the strand with v.
func (s *strand) finish(v api.Value) {
	s.ended, s.slots, s.stack = true, nil, stack[api.Value]{}
	if s.own == none {
		s.machine.close(api.Event{Kind: api.EvReturned, Value: v})
		return
	}
	s.machine.handles[s.own] = handle{value: v}
}

// need is x; an error is a fault.
func need[T any](x T, e api.Errno) T {
	if e != api.OK {
		panic(e)
	}
	return x
}

// number is the whole number that v, if it is one, is.
func number(v api.Value) int64 {
	if v[0].Kind != api.KInt {
		panic(api.ErrType)
	}
	return v[0].Int
}

// named is the handle whose number v, if it is one, is.
func (s *strand) named(v api.Value) int {
	x := number(v)
	if x < 0 || x >= int64(len(s.machine.handles)) {
		panic(api.ErrIndex)
	}
	return int(x)
}

// awaits has the strand wait for a handle.
func (s *strand) awaits(handle int, then func(s *strand) bool) {
	s.handle, s.wait = handle, then
}

// slept goes on behind an ISleep.
func (s *strand) slept() bool {
	return !s.machine.handles[s.handle].open
}

// awaited goes on behind an IAwait.
func (s *strand) awaited() bool {
	h := s.machine.handles[s.handle]
	switch {
	case h.open:
		return false
	case h.code != 0:
		panic(broken(h.code))
	}
	s.stack.put(h.value)
	return true
}

// settled goes on behind an ISettle.
func (s *strand) settled() bool {
	h := s.machine.handles[s.handle]
	switch {
	case h.open:
		return false
	case h.code != 0:
		h.value = value.Int(h.code)
	}
	s.stack.put(need(oper.List([]api.Value{value.Bool(h.code == 0), h.value})))
	return true
}

// taken goes on behind an ITake.
func (s *strand) taken() bool {
	row := s.machine.rows[s.signal]
	if len(row) == 0 {
		return false
	}
	s.stack.put(row[0])
	row[0] = nil // else what is left of the row would keep it
	s.machine.rows[s.signal] = row[1:]
	if len(row) == 1 {
		delete(s.machine.rows, s.signal)
	}
	return true
}
