package event_test

import (
	"slices"
	"testing"

	"prompter/api"
	"prompter/event"
)

// isFormed fails unless Form answers that, and Open and Ended what follows from it.
func isFormed(t *testing.T, l []api.Event, at int, e api.Errno) {
	t.Helper()
	if n, is := event.Form(l); n != at || is != e {
		t.Fatalf("Form of %s: %d, %d, not %d, %d", short(l...), n, is, at, e)
	}
	var open []int
	ended := false
	if e == api.OK {
		open = plainOpen(l)
		ended = len(l) > 0 && slices.Contains(last, l[len(l)-1].Kind)
	}
	if is := event.Open(l); !slices.Equal(is, open) {
		t.Fatalf("Open of %s: %v, not %v", short(l...), is, open)
	}
	if event.Ended(l) != ended {
		t.Fatalf("Ended of %s: not %t", short(l...), ended)
	}
}

// isPlain fails unless Form answers as the plain one.
func isPlain(t *testing.T, l []api.Event) (int, api.Errno) {
	t.Helper()
	at, e := plainForm(l)
	isFormed(t, l, at, e)
	return at, e
}

// history is a list of events.
func history(l ...api.Event) []api.Event { return l }

func TestForm(t *testing.T) { // P17.2
	for _, x := range []struct {
		l  []api.Event
		at int
		e  api.Errno
	}{
		{nil, 0, api.OK}, {history(), 0, api.OK}, {history(started()), 0, api.OK}, {history(started(), decided(0)), 0, api.OK}, {history(started(), decided(1), called(0)), 0, api.OK}, {history(started(), decided(1), returned()), 0, api.OK},
		// 1: the first event.
		{history(decided(0)), 0, api.ErrShape}, {history(decided(1)), 0, api.ErrShape}, {history(called(0)), 0, api.ErrShape}, {history(signaled()), 0, api.ErrShape}, {history(returned()), 0, api.ErrShape}, {history(signaled(), started()), 0, api.ErrShape},
		{history(started(), started()), 1, api.ErrShape}, {history(started(), signaled(), started()), 2, api.ErrShape}, {history(started(), decided(1), started()), 2, api.ErrShape}, {history(started(), decided(1), called(0), started()), 3, api.ErrShape},
		// 2: decisions and their orders.
		{history(started(), called(0)), 1, api.ErrShape}, {history(started(), returned()), 1, api.ErrShape}, {history(started(), decided(0), timed(0)), 2, api.ErrShape}, {history(started(), decided(1), called(0), called(1)), 3, api.ErrShape},
		{history(started(), decided(2), called(0)), 3, api.ErrShort}, {history(started(), decided(2)), 2, api.ErrShort}, {history(started(), decided(501)), 2, api.ErrShort}, {history(started(), decided(1), decided(0)), 2, api.ErrShape}, {history(started(), decided(1), signaled()), 2, api.ErrShape},
		{history(started(), decided(2), called(0), done(0)), 3, api.ErrShape}, {history(started(), decided(2), called(0), signaled()), 3, api.ErrShape}, {history(started(), decided(2), called(0), decided(1)), 3, api.ErrShape},
		{history(started(), decided(2), returned()), 2, api.ErrShape}, {history(started(), decided(2), returned(), called(0)), 2, api.ErrShape}, {history(started(), decided(2), returned(), returned()), 2, api.ErrShape}, {history(started(), decided(2), failed()), 2, api.ErrShape}, {history(started(), decided(501), faulted()), 2, api.ErrShape},
		{history(started(), decided(2), called(0), returned()), 0, api.OK}, {history(started(), decided(2), called(0), failed()), 0, api.OK}, {history(started(), decided(2), called(0), faulted()), 0, api.OK},
		{history(started(), decided(1), returned(), decided(0)), 3, api.ErrShape}, {history(started(), decided(1), failed(), signaled()), 3, api.ErrShape}, {history(started(), decided(1), faulted(), faulted()), 3, api.ErrShape}, {history(started(), decided(2), called(0), returned(), done(0)), 4, api.ErrShape}, {history(started(), decided(1), returned(), started()), 3, api.ErrShape},
		// 3: handles rise.
		{history(started(), decided(2), called(1), called(1)), 3, api.ErrShape}, {history(started(), decided(2), called(1), timed(0)), 3, api.ErrShape}, {history(started(), decided(2), timed(1), asked(1)), 3, api.ErrShape}, {history(started(), decided(2), asked(1), timed(2)), 0, api.OK}, {history(started(), decided(2), asked(7), timed(499)), 0, api.OK},
		{history(started(), decided(1), called(1), decided(1), timed(1)), 4, api.ErrShape}, {history(started(), decided(1), called(1), done(1), decided(1), asked(1)), 5, api.ErrShape}, {history(started(), decided(1), called(1), done(1), decided(1), asked(0)), 5, api.ErrShape}, {history(started(), decided(1), called(1), done(1), decided(1), asked(2)), 0, api.OK},
		// 4: what is answered.
		{history(started(), done(0)), 1, api.ErrShape}, {history(started(), fired(0)), 1, api.ErrShape}, {history(started(), broke(499)), 1, api.ErrShape}, {history(started(), done(0), decided(1), called(0)), 1, api.ErrShape}, {history(started(), decided(1), called(1), done(0)), 3, api.ErrShape}, {history(started(), decided(1), called(1), done(2)), 3, api.ErrShape},
		{history(started(), decided(1), called(0), fired(0)), 3, api.ErrShape}, {history(started(), decided(1), asked(0), fired(0)), 3, api.ErrShape}, {history(started(), decided(1), timed(0), done(0)), 3, api.ErrShape}, {history(started(), decided(1), timed(0), broke(0)), 3, api.ErrShape},
		{history(started(), decided(1), called(0), done(0)), 0, api.OK}, {history(started(), decided(1), called(0), broke(0)), 0, api.OK}, {history(started(), decided(1), asked(0), done(0)), 0, api.OK}, {history(started(), decided(1), asked(0), broke(0)), 0, api.OK}, {history(started(), decided(1), timed(0), fired(0)), 0, api.OK},
		{history(started(), decided(1), called(0), done(0), done(0)), 4, api.ErrShape}, {history(started(), decided(1), called(0), done(0), broke(0)), 4, api.ErrShape}, {history(started(), decided(1), asked(0), broke(0), done(0)), 4, api.ErrShape}, {history(started(), decided(1), timed(0), fired(0), fired(0)), 4, api.ErrShape}, {history(started(), decided(1), timed(0), fired(0), done(0)), 4, api.ErrShape},
		{history(started(), decided(3), called(0), timed(1), asked(2), done(2), fired(1), decided(0), broke(0)), 0, api.OK},
		// What is not right.
		{history(api.Event{}), 0, api.ErrShape}, {history(started(), api.Event{Kind: 13}), 1, api.ErrShape}, {history(started(), decided(502)), 1, api.ErrShape}, {history(started(), decided(1), called(500)), 2, api.ErrShape}, {history(started(), decided(1), called(-1)), 2, api.ErrShape}, {history(started(), decided(2), called(0), api.Event{Kind: api.EvReturned}), 3, api.ErrShape},
		{history(started(), decided(0), decided(1), api.Event{}), 3, api.ErrShape}, {history(started(), decided(0), api.Event{}, started()), 2, api.ErrShape}, {history(started(), started(), api.Event{}), 1, api.ErrShape}, {history(started(), fired(-1)), 1, api.ErrShape}, {history(started(), done(500)), 1, api.ErrShape},
	} {
		isFormed(t, x.l, x.at, x.e)
		isPlain(t, x.l)
	}
}

func TestOpen(t *testing.T) { // P17.3
	for _, x := range []struct {
		l     []api.Event
		open  []int
		ended bool
	}{
		{nil, nil, false}, {history(started()), nil, false}, {history(started(), decided(0)), nil, false}, {history(started(), decided(1), returned()), nil, true}, {history(started(), decided(1), failed()), nil, true}, {history(started(), decided(1), faulted()), nil, true},
		{history(started(), decided(2), called(0), called(3), done(0)), []int{3}, false}, {history(started(), decided(3), called(0), asked(3), timed(499)), []int{0, 3, 499}, false}, {history(started(), decided(3), called(0), asked(3), timed(499), fired(499), broke(3)), []int{0}, false},
		{history(started(), decided(1), timed(0), decided(2), called(2), returned()), []int{0, 2}, true}, {history(started(), decided(1), timed(0), fired(0), decided(1), returned()), nil, true},
		// Without form.
		{history(started(), decided(2), called(0)), nil, false}, {history(started(), decided(2), returned()), nil, false}, {history(decided(1), called(0)), nil, false}, {history(started(), decided(1), called(0), fired(0)), nil, false}, {history(started(), returned()), nil, false}, {history(returned()), nil, false},
		{history(started(), decided(1), returned(), signaled()), nil, false}, {history(started(), decided(2), called(0), returned(), returned()), nil, false}, {history(started(), decided(1), called(0), api.Event{}), nil, false}, {history(started(), decided(1), called(500)), nil, false},
	} {
		if open := event.Open(x.l); !slices.Equal(open, x.open) {
			t.Errorf("Open of %s: %v, not %v", short(x.l...), open, x.open)
		}
		if event.Ended(x.l) != x.ended {
			t.Errorf("Ended of %s: not %t", short(x.l...), x.ended)
		}
		isPlain(t, x.l)
	}
}

// few are events of which short histories are made.
func few() []api.Event {
	return history(started(), decided(0), decided(1), decided(2), decided(3), called(0), called(1), called(2), timed(0), timed(1), asked(1), asked(2), returned(), failed(), faulted(), done(0), done(1), broke(0), broke(2), fired(0), fired(1), signaled(), decided(502), called(500), fired(-1), api.Event{})
}

// grow holds the histories that begin with l and have up to so many events more: of those that may not be, no longer ones but those with some ends.
func grow(t *testing.T, l []api.Event, more int) {
	if _, e := isPlain(t, l); e == api.ErrShape {
		for _, end := range [][]api.Event{{called(0)}, {returned()}, {signaled(), {}}, {decided(9)}} {
			isPlain(t, slices.Concat(l, end))
		}
		return
	}
	for _, x := range few() {
		if more > 0 {
			grow(t, append(slices.Clip(l), x), more-1)
		}
	}
}

func TestAllShortHistories(t *testing.T) { // P17.2, P17.3
	grow(t, nil, 6)
	grow(t, history(started(), decided(3), called(0), timed(1), asked(2)), 3)
	grow(t, history(started(), decided(1), timed(0), signaled(), decided(1), called(1), done(1)), 3)
	for _, x := range few() {
		for _, y := range few() {
			for _, z := range few() {
				isPlain(t, history(x, y, z))
			}
		}
	}
}
