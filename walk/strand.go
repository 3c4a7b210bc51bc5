package walk

import (
	"slices"

	"prompter/api"
	"prompter/oper"
	"prompter/value"
)

// strand is a strand of a run.
type strand struct {
	run    *run
	own    int         // the number of its handle; none of strand 0
	slots  []api.Value // what its variables are; those that it has not met are nil
	path   []spot      // the twigs that it is in, each one within that ahead of it; none once it has ended
	values []api.Value // of those parts of these twigs that are known and not used yet, in their order
}

// spot is a twig that a strand is in, and how far it has come there.
type spot struct {
	place  int
	next   int  // where the part begins that comes next
	gone   int  // how many parts were gone through
	after  bool // its step is done, but something of it is left
	handle int  // the one that it waits for behind its step, if it waits for one
}

// goOn goes as far as it can, and tells whether that was anywhere.
func (s *strand) goOn() (went bool) {
	for !s.run.closed && len(s.path) > 0 && s.move() {
		went = true
	}
	return went
}

// move goes into the next part of the innermost twig, does its step, or goes to its end; it tells whether it could.
func (s *strand) move() bool {
	at := s.last()
	x := s.run.tree[at.place]
	switch {
	case at.gone < first(x):
		s.part()
	case at.after:
		return s.finish(x)
	case x.Op == api.OBlock:
		s.leave()
	default:
		s.step(x)
	}
	return true
}

// first is how many of a twig's parts are gone through ahead of its step.
func first(x api.Twig) int {
	switch x.Op {
	case api.OIf, api.OWhile, api.OOr, api.OAnd:
		return 1
	case api.OFork:
		return 0
	}
	return x.Kids
}

// last is the innermost twig that the strand is in.
func (s *strand) last() *spot {
	return &s.path[len(s.path)-1]
}

// enter goes into the twig at that place.
func (s *strand) enter(place int) {
	s.path = append(s.path, spot{place: place, next: place + 1})
}

// part goes into the next part of the innermost twig.
func (s *strand) part() {
	at := s.last()
	place := at.next
	at.gone++
	at.next = s.run.behind[place]
	s.enter(place)
}

// leave goes out of the innermost twig. A strand that leaves its block ends with nothing.
func (s *strand) leave() {
	s.path = s.path[:len(s.path)-1]
	if len(s.path) == 0 {
		s.end(value.None())
	}
}

// end ends the strand with v.
func (s *strand) end(v api.Value) {
	s.path, s.values = nil, nil
	if s.own == none {
		s.run.close(api.Event{Kind: api.EvReturned, Value: slices.Clone(v)})
		return
	}
	s.run.handles[s.own] = handle{value: v}
}

// known takes the values of so many parts; the list holds only until another value is put.
func (s *strand) known(count int) []api.Value {
	from := len(s.values) - count
	l := s.values[from:]
	s.values = s.values[:from]
	return l
}

// put leaves the innermost twig, whose value is v; an error is a fault.
func (s *strand) put(v api.Value, e api.Errno) {
	if e != api.OK {
		s.run.fault(int64(e))
		return
	}
	s.values = append(s.values, v)
	s.leave()
}

// stay stays in the innermost twig behind its step, which may wait for a handle there; an error is a fault.
func (s *strand) stay(id int, e api.Errno) {
	if e != api.OK {
		s.run.fault(int64(e))
		return
	}
	at := s.last()
	at.after, at.handle = true, id
}

// finish goes from behind a twig's step to its end; it tells whether it could.
func (s *strand) finish(x api.Twig) bool {
	switch x.Op {
	case api.OOr, api.OAnd:
		b, e := oper.Truth(s.known(1)[0])
		s.put(value.Bool(b), e)
		return true
	case api.OTake:
		return s.take(x.Text)
	}
	h := s.run.handles[s.last().handle]
	if h.open {
		return false
	}
	switch {
	case x.Op == api.OSleep:
		s.leave()
	case x.Op == api.OSettle:
		s.put(settled(h))
	case h.code != 0:
		s.run.fault(h.code)
	default:
		s.put(h.value, api.OK)
	}
	return true
}

// take takes the first signal of that name; it tells whether there was one.
func (s *strand) take(name string) bool {
	row := s.run.rows[name]
	if len(row) == 0 {
		return false
	}
	s.run.rows[name] = row[1:]
	s.put(row[0], api.OK)
	return true
}

// settled is what has become of a handle that is not open.
func settled(h handle) (api.Value, api.Errno) {
	if h.code != 0 {
		return oper.List([]api.Value{value.Bool(false), value.Int(h.code)})
	}
	return oper.List([]api.Value{value.Bool(true), h.value})
}
