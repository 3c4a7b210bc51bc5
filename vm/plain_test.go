package vm_test

import (
	"iter"
	"slices"

	"prompter/api"
	"prompter/instr"
	"prompter/oper"
	"prompter/value"
)

// state is what a machine tells, and what New or the last Feed answered.
type state struct {
	e      api.Errno
	orders []api.Event
	open   []int
	closed bool
	steps  int
}

// tale is a machine as the chapter tells it: each strand is a coroutine that goes through the code by the instructions' words.
type tale struct {
	code    []api.Instr
	version int64
	fuel    int
	steps   int
	strands []func() (struct{}, bool)
	stops   []func()
	handles []*held
	signals []api.Event // that came and were not taken, whatever their names
	orders  []api.Event
	closed  bool
	deeds   int // steps, and waits that were over: while there are new ones strands have gone on
}

// held is a handle: is tells whether it is done (d), broken (b), or open.
type held struct {
	kind  byte
	is    byte
	value api.Value
	code  int64
}

// What is thrown through a strand's functions: it ends with a value, or must not go on.
type ended struct{ value api.Value }
type over struct{}

// thread is what a strand's functions know.
type thread struct {
	*tale
	slots map[int]api.Value // those that are not there have nothing
	stack []api.Value       // the top is the last one
	wait  func(struct{}) bool
}

// spawn makes a strand that begins at a place; then is told what it ends with.
func (r *tale) spawn(at int, slots map[int]api.Value, then func(v api.Value)) {
	own := map[int]api.Value{}
	for k, v := range slots {
		own[k] = v
	}
	next, stop := iter.Pull(func(yield func(struct{}) bool) {
		defer func() {
			switch x := recover().(type) {
			case ended:
				r.deeds++
				then(x.value)
			case over:
			default:
				panic(x)
			}
		}()
		s := &thread{tale: r, slots: own, wait: yield}
		for {
			at = s.do(at)
		}
	})
	r.strands, r.stops = append(r.strands, next), append(r.stops, stop)
}

func (r *tale) rounds() {
	for deeds := -1; deeds != r.deeds && !r.closed; {
		deeds = r.deeds
		for i := 0; i < len(r.strands) && !r.closed; i++ {
			r.strands[i]()
		}
	}
}

func (r *tale) close(x api.Event) {
	r.orders = append(r.orders, x)
	r.closed = true
}

// need ends the run with a fault, unless e is OK.
func (s *thread) need(e api.Errno) {
	if e != api.OK {
		s.fault(int64(e))
	}
}

func (s *thread) fault(code int64) {
	s.close(api.Event{Kind: api.EvFaulted, Int: code})
	panic(over{})
}

func (s *thread) until(there func() bool) {
	for !there() {
		if !s.wait(struct{}{}) {
			panic(over{})
		}
	}
	s.deeds++
}

func (s *thread) push(v api.Value) { s.stack = append(s.stack, v) }

func (s *thread) top() api.Value { return s.stack[len(s.stack)-1] }

func (s *thread) pop() api.Value {
	v := s.top()
	s.stack = s.stack[:len(s.stack)-1]
	return v
}

// row takes so many, the last one that was put being the last one of them.
func (s *thread) row(n int) api.Value {
	var l []api.Value
	for range n {
		l = append(l, s.pop())
	}
	slices.Reverse(l)
	return s.list(l...)
}

func (s *thread) list(l ...api.Value) api.Value {
	v, e := oper.List(l)
	s.need(e)
	return v
}

func (s *thread) truth(v api.Value) bool {
	b, e := oper.Truth(v)
	s.need(e)
	return b
}

// do does what the instruction at a place says, and tells where to go on.
func (s *thread) do(at int) int {
	in := s.code[at]
	word := instr.Word(in.Op)
	if word != "jump" && word != "bool" && word != "end" {
		if s.steps == s.fuel {
			s.need(api.ErrFuel)
		}
		s.steps++
		s.deeds++
	}
	switch word {
	case "jump":
		return in.A
	case "branch":
		if !s.truth(s.pop()) {
			return in.A
		}
	case "or", "and":
		if s.truth(s.top()) == (word == "or") {
			return in.A
		}
		s.pop()
	case "bool":
		s.truth(s.top())
	case "load":
		v, is := s.slots[in.A]
		if !is {
			v = value.None()
		}
		s.push(v)
	case "store":
		s.slots[in.A] = s.pop()
	case "drop":
		s.pop()
	case "return":
		panic(ended{s.pop()})
	case "end":
		panic(ended{value.None()})
	case "fail":
		s.close(api.Event{Kind: api.EvFailed, Value: s.pop()})
		panic(over{})
	case "sleep":
		s.await(s.timer(s.pop()))
	default:
		s.push(s.value(in, word))
	}
	return at + 1
}

// value is what an instruction puts on the stack.
func (s *thread) value(in api.Instr, word string) api.Value {
	switch word {
	case "none":
		return value.None()
	case "true", "false":
		return value.Bool(word == "true")
	case "int":
		return value.Int(in.Int)
	case "text":
		return api.Value{{Kind: api.KText, Text: in.Text}}
	case "version":
		return value.Int(s.version)
	case "list":
		return s.row(in.A)
	case "call":
		return value.Int(int64(s.order(api.Event{Kind: api.EvCalled, Name: in.Text, Value: s.row(in.A)})))
	case "child":
		return value.Int(int64(s.order(api.Event{Kind: api.EvAsked, Name: in.Text, Value: s.row(in.A)})))
	case "timer":
		return value.Int(int64(s.timer(s.pop())))
	case "fork":
		return value.Int(int64(s.fork(in.A)))
	case "await":
		h := s.await(s.find(s.pop()))
		if h.is == 'b' {
			s.fault(h.code)
		}
		return h.value
	case "settle":
		h := s.await(s.find(s.pop()))
		if h.is == 'b' {
			return s.list(value.Bool(false), value.Int(h.code))
		}
		return s.list(value.Bool(true), h.value)
	case "take":
		return s.take(in.Text)
	}
	return s.worked(in.Op)
}

func (s *thread) worked(op byte) (v api.Value) {
	var e api.Errno
	if op <= 42 {
		b := s.pop()
		v, e = oper.Binary(op, s.pop(), b)
	} else {
		v, e = oper.Unary(op, s.pop())
	}
	s.need(e)
	return v
}

func (s *thread) handle(h *held) int {
	if len(s.handles) == 500 {
		s.need(api.ErrOpen)
	}
	s.handles = append(s.handles, h)
	return len(s.handles) - 1
}

// order makes an order with a new handle.
func (s *thread) order(x api.Event) int {
	x.Id = s.handle(&held{kind: x.Kind})
	s.orders = append(s.orders, x)
	return x.Id
}

func (s *thread) timer(v api.Value) int {
	if v[0].Kind != api.KInt {
		s.need(api.ErrType)
	}
	if v[0].Int < 0 {
		return s.order(api.Event{Kind: api.EvTimed})
	}
	return s.order(api.Event{Kind: api.EvTimed, Int: v[0].Int})
}

func (s *thread) await(id int) *held {
	h := s.handles[id]
	s.until(func() bool { return h.is != 0 })
	return h
}

// find is the number of a handle that v says.
func (s *thread) find(v api.Value) int {
	if v[0].Kind != api.KInt {
		s.need(api.ErrType)
	}
	for i := range s.handles {
		if int64(i) == v[0].Int {
			return i
		}
	}
	s.need(api.ErrIndex)
	return 0
}

func (s *thread) fork(at int) int {
	if len(s.strands) == 20 {
		s.need(api.ErrOpen)
	}
	h := &held{}
	id := s.handle(h)
	s.spawn(at, s.slots, func(v api.Value) { h.is, h.value = 'd', v })
	return id
}

func (s *thread) take(name string) (v api.Value) {
	s.until(func() bool {
		for i, x := range s.signals {
			if x.Name == name {
				v = x.Value
				s.signals = slices.Concat(s.signals[:i], s.signals[i+1:])
				return true
			}
		}
		return false
	})
	return v
}

// says takes what a feed says.
func (r *tale) says(x api.Event) api.Errno {
	lacks := map[byte]bool{ // what a feed of each kind has not
		api.EvDone:     x.Name == "" && x.Int == 0 && value.Check(x.Value) == api.OK,
		api.EvBroke:    x.Name == "" && x.Int >= 1 && len(x.Value) == 0,
		api.EvFired:    x.Name == "" && x.Int == 0 && len(x.Value) == 0,
		api.EvSignaled: x.Id == 0 && x.Int == 0 && value.Name(x.Name) && value.Check(x.Value) == api.OK,
	}
	if !lacks[x.Kind] {
		return api.ErrShape
	}
	if r.closed {
		return api.ErrFull
	}
	if x.Kind == api.EvSignaled {
		r.signals = append(r.signals, x)
		return api.OK
	}
	for i, h := range r.handles {
		if i != x.Id || h.kind == 0 || (h.kind == api.EvTimed) != (x.Kind == api.EvFired) {
			continue
		}
		if h.is != 0 {
			return api.ErrThere
		}
		switch x.Kind {
		case api.EvDone:
			h.is, h.value = 'd', x.Value
		case api.EvBroke:
			h.is, h.code = 'b', x.Int
		case api.EvFired:
			h.is, h.value = 'd', value.None()
		}
		return api.OK
	}
	return api.ErrNone
}

// state is what the machine tells by now.
func (r *tale) state(e api.Errno) state {
	now := state{e: e, orders: slices.Clone(r.orders), closed: r.closed, steps: r.steps}
	for i, h := range r.handles {
		if !r.closed && h.is == 0 && h.kind != 0 {
			now.open = append(now.open, i)
		}
	}
	return now
}

// plainWrong is New's error.
func plainWrong(r run) api.Errno {
	if _, _, _, e := instr.Check(r.code, r.params); e != api.OK {
		return e
	}
	if e := value.Check(r.args); e != api.OK {
		return e
	}
	switch {
	case r.args[0].Kind != api.KList:
		return api.ErrShape
	case r.args[0].Kids != r.params || r.version < 0 || r.fuel < 0 || r.fuel > 1<<20:
		return api.ErrArg
	}
	return api.OK
}

// plain is what the chapter says of a machine: ahead of all feeds, and behind each.
func plain(x run, feed []api.Event) (l []state) {
	if e := plainWrong(x); e != api.OK {
		return []state{{e: e}}
	}
	members, _ := value.Members(x.args)
	slots := map[int]api.Value{}
	for i, v := range members {
		slots[i] = v
	}
	r := &tale{code: x.code, version: x.version, fuel: x.fuel}
	defer func() {
		for _, stop := range r.stops {
			stop()
		}
	}()
	r.spawn(0, slots, func(v api.Value) { r.close(api.Event{Kind: api.EvReturned, Value: v}) })
	r.rounds()
	l = append(l, r.state(api.OK))
	for _, f := range feed {
		e := r.says(f)
		if e == api.OK {
			r.rounds()
		}
		l = append(l, r.state(e))
	}
	return l
}
