package walk

import (
	"slices"

	"prompter/api"
	"prompter/oper"
	"prompter/value"
)

// step does the step of x, the innermost twig, if there is fuel for it.
func (s *strand) step(x api.Twig) {
	if s.run.fuel == 0 {
		s.run.fault(int64(api.ErrFuel))
		return
	}
	s.run.fuel--
	parts, slot := s.known(first(x)), s.run.slots[s.last().place]
	switch x.Op {
	case api.OIf, api.OWhile, api.OOr, api.OAnd:
		s.choose(x, parts[0])
	case api.OLet, api.OSet:
		s.slots[slot] = parts[0]
		s.leave()
	case api.ODrop:
		s.leave()
	case api.OReturn:
		s.end(parts[0])
	case api.OFail:
		s.run.close(api.Event{Kind: api.EvFailed, Value: slices.Clone(parts[0])})
	case api.OSleep:
		s.stay(s.timer(parts[0]))
	case api.OAwait, api.OSettle:
		s.stay(s.named(parts[0]))
	case api.OTake:
		s.stay(none, api.OK)
	case api.OName:
		s.put(s.slots[slot], api.OK)
	default:
		s.put(s.worth(x, parts))
	}
}

// choose goes where the twig's first part says.
func (s *strand) choose(x api.Twig, condition api.Value) {
	is, e := oper.Truth(condition)
	if e != api.OK {
		s.run.fault(int64(e))
		return
	}
	switch place := s.last().place; x.Op {
	case api.OIf:
		s.leave()
		if is {
			s.enter(s.run.part(place, 1))
		} else if x.Kids > 2 {
			s.enter(s.run.part(place, 2))
		}
	case api.OWhile:
		s.leave()
		if is { // the loop itself comes anew behind the block
			s.enter(place)
			s.enter(s.run.part(place, 1))
		}
	case api.OOr, api.OAnd:
		if is == (x.Op == api.OOr) {
			s.put(value.Bool(is), api.OK)
			return
		}
		s.stay(none, api.OK)
		s.part()
	}
}

// worth is the value of an expression whose parts are these.
func (s *strand) worth(x api.Twig, parts []api.Value) (api.Value, api.Errno) {
	switch x.Op {
	case api.ONone:
		return value.None(), api.OK
	case api.OTrue, api.OFalse:
		return value.Bool(x.Op == api.OTrue), api.OK
	case api.OInt:
		return value.Int(x.Int), api.OK
	case api.OText:
		return value.Text(x.Text)
	case api.OVersion:
		return value.Int(s.run.version), api.OK
	case api.OList:
		return oper.List(parts)
	case api.OCall:
		return number(s.ask(api.EvCalled, x.Text, parts))
	case api.OChild:
		return number(s.ask(api.EvAsked, x.Text, parts))
	case api.OTimer:
		return number(s.timer(parts[0]))
	case api.OFork:
		return number(s.fork())
	}
	if len(parts) == 2 {
		return oper.Binary(x.Op, parts[0], parts[1])
	}
	return oper.Unary(x.Op, parts[0])
}

// number is a handle's number as a value.
func number(id int, e api.Errno) (api.Value, api.Errno) {
	if e != api.OK {
		return nil, e
	}
	return value.Int(int64(id)), api.OK
}

// ask orders a call or a child, and tells its handle.
func (s *strand) ask(kind byte, name string, parts []api.Value) (int, api.Errno) {
	args, e := oper.List(parts)
	if e != api.OK {
		return 0, e
	}
	return s.run.order(api.Event{Kind: kind, Name: name, Value: args})
}

// timer orders a timer, and tells its handle.
func (s *strand) timer(long api.Value) (int, api.Errno) {
	if long[0].Kind != api.KInt {
		return 0, api.ErrType
	}
	return s.run.order(api.Event{Kind: api.EvTimed, Int: max(long[0].Int, 0)})
}

// fork makes a strand of the innermost twig's block, and tells its handle.
func (s *strand) fork() (int, api.Errno) {
	if len(s.run.strands) == api.MaxStrands {
		return 0, api.ErrOpen
	}
	own, e := s.run.newHandle(0)
	if e != api.OK {
		return 0, e
	}
	made := s.run.newStrand(s.run.part(s.last().place, 0), own)
	copy(made.slots, s.slots)
	return own, api.OK
}

// named is the handle whose number v is.
func (s *strand) named(v api.Value) (int, api.Errno) {
	switch x := v[0]; {
	case x.Kind != api.KInt:
		return 0, api.ErrType
	case x.Int < 0 || x.Int >= int64(len(s.run.handles)):
		return 0, api.ErrIndex
	default:
		return int(x.Int), api.OK
	}
}
