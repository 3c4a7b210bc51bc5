package check

import "prompter/api"

// scope is which variables are seen at the twig to which a flow was gone through.
type scope struct {
	slots map[string]int // of the variables that are seen, by their names
	names []string       // theirs, the one that is seen for the longest time first
	made  int            // how many variables there are so far, seen or not
}

// slots are the slots of a right tree of a flow; with an error only those of the twigs ahead of the wrong one.
func slots(t api.Tree) ([]int, api.Errno) {
	l := make([]int, 0, len(t))
	s := scope{slots: map[string]int{}}
	// pass goes past the tree whose first twig is the next one without a slot, or stops at a wrong twig.
	var pass func() api.Errno
	pass = func() api.Errno {
		x, seen := t[len(l)], len(s.names)
		slot, e := s.slot(x)
		if e != api.OK {
			return e
		}
		l = append(l, slot)
		for range x.Kids {
			if e := pass(); e != api.OK {
				return e
			}
		}
		switch x.Op {
		case api.OParam, api.OLet: // only now: a variable is not seen in its own value
			s.show(x.Text, slot)
		case api.OBlock:
			s.hide(seen)
		}
		return api.OK
	}
	e := pass()
	return l, e
}

// slot is the slot of the variable that x makes or means; -1 if it does neither.
func (s *scope) slot(x api.Twig) (int, api.Errno) {
	slot, seen := s.slots[x.Text]
	switch x.Op {
	case api.OParam, api.OLet:
		if seen {
			return 0, api.ErrTwice
		}
		if s.made == api.MaxSlots {
			return 0, api.ErrLong
		}
		s.made++
		return s.made - 1, api.OK
	case api.OSet, api.OName:
		if !seen {
			return 0, api.ErrName
		}
		return slot, api.OK
	}
	return -1, api.OK
}

// show lets a variable be seen from now on.
func (s *scope) show(name string, slot int) {
	s.slots[name] = slot
	s.names = append(s.names, name)
}

// hide leaves only the first so many of the variables that are seen.
func (s *scope) hide(left int) {
	for _, name := range s.names[left:] {
		delete(s.slots, name)
	}
	s.names = s.names[:left]
}
