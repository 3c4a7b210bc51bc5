package walk_test

import (
	"iter"

	"prompter/api"
	"prompter/check"
	"prompter/oper"
	"prompter/value"
)

// nest is a tree with its parts in it.
type nest struct {
	api.Twig
	parts []nest
}

// nested is the right tree with which t begins, and what stands behind it.
func nested(t api.Tree) (n nest, rest api.Tree) {
	n, rest = nest{Twig: t[0]}, t[1:]
	for range n.Kids {
		var p nest
		p, rest = nested(rest)
		n.parts = append(n.parts, p)
	}
	return n, rest
}

// tale is a run as the chapter tells it: each strand is a coroutine that goes through its block by functions that call themselves, and knows its variables by their names.
type tale struct {
	version int64
	left    int // steps
	strands []func() (struct{}, bool)
	stops   []func()
	handles []*held
	signals []api.Event // that came and were not taken, whatever their names
	orders  []api.Event
	closed  bool
	deeds   int // steps, and waits that were over: while there are new ones strands have gone on
}

// held is a handle: is tells whether it is done (d), broken (b), or open.
type held struct {
	kind  byte
	is    byte
	value api.Value
	code  int64
}

// What is thrown through a strand's functions: it ends with a value, or must not go on.
type ended struct{ value api.Value }
type over struct{}

// thread is what a strand's functions know.
type thread struct {
	*tale
	names map[string]api.Value
	wait  func(struct{}) bool
}

// spawn makes a strand of that block; then is told what it ends with.
func (r *tale) spawn(block nest, names map[string]api.Value, then func(v api.Value)) {
	own := map[string]api.Value{}
	for k, v := range names {
		own[k] = v
	}
	next, stop := iter.Pull(func(yield func(struct{}) bool) {
		defer func() {
			switch x := recover().(type) {
			case nil:
				then(value.None())
			case ended:
				then(x.value)
			case over:
			default:
				panic(x)
			}
		}()
		thread{r, own, yield}.block(block)
	})
	r.strands, r.stops = append(r.strands, next), append(r.stops, stop)
}

func (r *tale) rounds() {
	for deeds := -1; deeds != r.deeds && !r.closed; {
		deeds = r.deeds
		for i := 0; i < len(r.strands) && !r.closed; i++ {
			r.strands[i]()
		}
	}
}

func (r *tale) close(x api.Event) {
	r.orders = append(r.orders, x)
	r.closed = true
}

// need ends the run with a fault, unless e is OK.
func (s thread) need(e api.Errno) {
	if e != api.OK {
		s.fault(int64(e))
	}
}

func (s thread) fault(code int64) {
	s.close(api.Event{Kind: api.EvFaulted, Int: code})
	panic(over{})
}

func (s thread) step() {
	if s.left == 0 {
		s.need(api.ErrFuel)
	}
	s.left--
	s.deeds++
}

func (s thread) until(there func() bool) {
	for !there() {
		if !s.wait(struct{}{}) {
			panic(over{})
		}
	}
	s.deeds++
}

func (s thread) block(n nest) {
	for _, p := range n.parts {
		s.statement(p)
	}
}

func (s thread) statement(n nest) {
	v := s.value(n.parts[0])
	s.step()
	switch n.Op {
	case api.OLet, api.OSet:
		s.names[n.Text] = v
	case api.OReturn:
		panic(ended{v})
	case api.OFail:
		s.close(api.Event{Kind: api.EvFailed, Value: v})
		panic(over{})
	case api.OSleep:
		s.await(s.timer(v))
	case api.OIf:
		if s.truth(v) {
			s.block(n.parts[1])
		} else if len(n.parts) == 3 {
			s.block(n.parts[2])
		}
	case api.OWhile:
		if s.truth(v) {
			s.block(n.parts[1])
			s.statement(n)
		}
	}
}

func (s thread) truth(v api.Value) bool {
	b, e := oper.Truth(v)
	s.need(e)
	return b
}

func (s thread) list(l ...api.Value) api.Value {
	v, e := oper.List(l)
	s.need(e)
	return v
}

func (s thread) handle(h *held) int {
	if len(s.handles) == 500 {
		s.need(api.ErrOpen)
	}
	s.handles = append(s.handles, h)
	return len(s.handles) - 1
}

// order makes an order with a new handle.
func (s thread) order(x api.Event) int {
	x.Id = s.handle(&held{kind: x.Kind})
	s.orders = append(s.orders, x)
	return x.Id
}

func (s thread) timer(v api.Value) int {
	if v[0].Kind != api.KInt {
		s.need(api.ErrType)
	}
	if v[0].Int < 0 {
		return s.order(api.Event{Kind: api.EvTimed})
	}
	return s.order(api.Event{Kind: api.EvTimed, Int: v[0].Int})
}

func (s thread) await(id int) *held {
	h := s.handles[id]
	s.until(func() bool { return h.is != 0 })
	return h
}

// find is the number of a handle that v says.
func (s thread) find(v api.Value) int {
	if v[0].Kind != api.KInt {
		s.need(api.ErrType)
	}
	for i := range s.handles {
		if int64(i) == v[0].Int {
			return i
		}
	}
	s.need(api.ErrIndex)
	return 0
}

func (s thread) fork(block nest) int {
	if len(s.strands) == 20 {
		s.need(api.ErrOpen)
	}
	h := &held{}
	id := s.handle(h)
	s.spawn(block, s.names, func(v api.Value) { h.is, h.value = 'd', v })
	return id
}

func (s thread) take(name string) (v api.Value) {
	s.until(func() bool {
		for i, x := range s.signals {
			if x.Name == name {
				v = x.Value
				s.signals = append(append([]api.Event(nil), s.signals[:i]...), s.signals[i+1:]...)
				return true
			}
		}
		return false
	})
	return v
}

// value is what an expression is worth.
func (s thread) value(n nest) api.Value {
	var l []api.Value
	for i, p := range n.parts {
		if n.Op == api.OFork || i == 1 && (n.Op == api.OOr || n.Op == api.OAnd) {
			break
		}
		l = append(l, s.value(p))
	}
	s.step()
	switch n.Op {
	case api.ONone:
		return value.None()
	case api.OTrue:
		return value.Bool(true)
	case api.OFalse:
		return value.Bool(false)
	case api.OInt:
		return value.Int(n.Int)
	case api.OText:
		v, _ := value.Text(n.Text)
		return v
	case api.OName:
		return s.names[n.Text]
	case api.OVersion:
		return value.Int(s.version)
	case api.OList:
		return s.list(l...)
	case api.OOr:
		return value.Bool(s.truth(l[0]) || s.truth(s.value(n.parts[1])))
	case api.OAnd:
		return value.Bool(s.truth(l[0]) && s.truth(s.value(n.parts[1])))
	case api.OCall:
		return value.Int(int64(s.order(api.Event{Kind: api.EvCalled, Name: n.Text, Value: s.list(l...)})))
	case api.OChild:
		return value.Int(int64(s.order(api.Event{Kind: api.EvAsked, Name: n.Text, Value: s.list(l...)})))
	case api.OTimer:
		return value.Int(int64(s.timer(l[0])))
	case api.OFork:
		return value.Int(int64(s.fork(n.parts[0])))
	case api.OAwait:
		h := s.await(s.find(l[0]))
		if h.is == 'b' {
			s.fault(h.code)
		}
		return h.value
	case api.OSettle:
		if h := s.await(s.find(l[0])); h.is == 'b' {
			return s.list(value.Bool(false), value.Int(h.code))
		} else {
			return s.list(value.Bool(true), h.value)
		}
	case api.OTake:
		return s.take(n.Text)
	}
	return s.worked(n.Op, l)
}

func (s thread) worked(op byte, l []api.Value) (v api.Value) {
	var e api.Errno
	if len(l) == 2 {
		v, e = oper.Binary(op, l[0], l[1])
	} else {
		v, e = oper.Unary(op, l[0])
	}
	s.need(e)
	return v
}

// says takes what a feed says.
func (r *tale) says(x api.Event) api.Errno {
	lacks := map[byte]bool{ // what a feed of each kind has not
		api.EvDone:     x.Name == "" && x.Int == 0 && value.Check(x.Value) == api.OK,
		api.EvBroke:    x.Name == "" && x.Int >= 1 && len(x.Value) == 0,
		api.EvFired:    x.Name == "" && x.Int == 0 && len(x.Value) == 0,
		api.EvSignaled: x.Id == 0 && x.Int == 0 && value.Name(x.Name) && value.Check(x.Value) == api.OK,
	}
	if !lacks[x.Kind] {
		return api.ErrShape
	}
	if r.closed {
		return api.ErrFull
	}
	if x.Kind == api.EvSignaled {
		r.signals = append(r.signals, x)
		return api.OK
	}
	for i, h := range r.handles {
		if i != x.Id || h.kind == 0 || (h.kind == api.EvTimed) != (x.Kind == api.EvFired) {
			continue
		}
		if h.is != 0 {
			return api.ErrThere
		}
		switch x.Kind {
		case api.EvDone:
			h.is, h.value = 'd', x.Value
		case api.EvBroke:
			h.is, h.code = 'b', x.Int
		case api.EvFired:
			h.is, h.value = 'd', value.None()
		}
		return api.OK
	}
	return api.ErrNone
}

// answer is what Walk answers, and how many steps were done.
type answer struct {
	orders []api.Event
	cuts   []int
	at     int
	e      api.Errno
	steps  int
}

// plain is what the chapter says of a run.
func plain(t api.Tree, args api.Value, version int64, fuel int, feed []api.Event) (a answer) {
	if _, e := check.Names(t); e != api.OK {
		return answer{e: e}
	}
	if e := value.Check(args); e != api.OK {
		return answer{e: e}
	}
	if args[0].Kind != api.KList {
		return answer{e: api.ErrShape}
	}
	flow, _ := nested(t)
	params := flow.parts[:len(flow.parts)-1]
	members, _ := value.Members(args)
	if len(members) != len(params) || version < 0 || fuel < 0 || fuel > 1<<20 {
		return answer{e: api.ErrArg}
	}
	names := map[string]api.Value{}
	for i, p := range params {
		names[p.Text] = members[i]
	}
	r := &tale{version: version, left: fuel}
	defer func() {
		for _, stop := range r.stops {
			stop()
		}
	}()
	r.spawn(flow.parts[len(params)], names, func(v api.Value) {
		r.close(api.Event{Kind: api.EvReturned, Value: v})
	})
	r.rounds()
	a.cuts = append(a.cuts, len(r.orders))
	for i, x := range feed {
		if e := r.says(x); e != api.OK {
			return answer{at: i, e: e}
		}
		r.rounds()
		a.cuts = append(a.cuts, len(r.orders))
	}
	a.orders, a.steps = r.orders, fuel-r.left
	return a
}
