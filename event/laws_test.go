package event_test

import (
	"bytes"
	"slices"
	"testing"

	"prompter/api"
	"prompter/event"
)

// draws are numbers that a short rule strews.
type draws uint64

func (d *draws) below(n int) int {
	*d = 6364136223846793005**d + 1442695040888963407
	return int(*d>>33) % n
}

// one is one of l.
func one[T any](d *draws, l ...T) T {
	return l[d.below(len(l))]
}

// history is one that has form, of about so many events.
func (d *draws) history(size int) []api.Event {
	l, next := history(started()), 0
	for len(l) < size && !event.Ended(l) {
		open := event.Open(l)
		switch d.below(5) {
		case 0, 1:
			l = d.decision(l, &next)
		case 2:
			l = append(l, signaled())
		default:
			if len(open) > 0 {
				l = append(l, answer(l, one(d, open...), d.below(2) == 0))
			}
		}
	}
	return l
}

// decision is l with a decision behind it; next is the least handle that it may have.
func (d *draws) decision(l []api.Event, next *int) []api.Event {
	n := d.below(4)
	l = append(l, decided(int64(n)))
	for i := range n {
		if i == n-1 && d.below(8) == 0 {
			return append(l, one(d, returned(), failed(), faulted()))
		}
		*next += d.below(3)
		l = append(l, one(d, called, timed, asked)(*next))
		*next++
	}
	return l
}

// answer is one of the order of l that has that Id.
func answer(l []api.Event, id int, well bool) api.Event {
	switch {
	case has(l, id, api.EvTimed):
		return fired(id)
	case well:
		return done(id)
	}
	return broke(id)
}

// changed is l with something changed: an event is another one, is left out, comes too, or stands elsewhere.
func (d *draws) changed(l []api.Event) []api.Event {
	l = slices.Clone(l)
	at := d.below(len(l))
	other := one(d, slices.Concat(few(), l)...)
	switch d.below(5) {
	case 0:
		l[at] = other
	case 1:
		l = slices.Delete(l, at, at+1)
	case 2:
		l = slices.Insert(l, at, other)
	case 3:
		to := d.below(len(l))
		l[at], l[to] = l[to], l[at]
	default:
		l[at].Id += d.below(3) - 1
		l[at].Int += int64(d.below(3) - 1)
	}
	return l
}

func TestStrewnHistories(t *testing.T) { // P17.2, P17.3
	d := draws(3)
	for range 20000 {
		l := d.history(1 + d.below(40))
		isFormed(t, l, 0, api.OK)
		isPlain(t, l)
		for range 1 + d.below(2) {
			if l = d.changed(l); len(l) > 0 {
				isPlain(t, l)
			} else {
				break
			}
		}
	}
}

// TestBeginnings holds that a beginning of a history that has form has form, or lacks orders.
func TestBeginnings(t *testing.T) { // P17.7
	d := draws(5)
	for range 1000 {
		l := d.history(1 + d.below(40))
		for n := range l {
			if at, e := event.Form(l[:n]); !(at == 0 && e == api.OK || at == n && e == api.ErrShort && plainDue(l[:n]) > 0) {
				t.Fatalf("Form of %s: %d, %d", short(l[:n]...), at, e)
			}
			isPlain(t, l[:n])
		}
	}
}

// TestWhatMayFollow holds what may be put to a history that has form and has not ended.
func TestWhatMayFollow(t *testing.T) { // P17.7
	d := draws(7)
	for range 200 {
		l := d.history(1 + d.below(60))
		if event.Ended(l) {
			for _, x := range few() {
				isFormed(t, append(slices.Clip(l), x), len(l), api.ErrShape)
			}
			continue
		}
		isFormed(t, append(slices.Clip(l), signaled()), 0, api.OK)
		isFormed(t, append(slices.Clip(l), decided(0)), 0, api.OK)
		open := plainOpen(l)
		for id := range 505 {
			for _, x := range []api.Event{done(id), broke(id), fired(id)} {
				mayAnswer(t, l, open, x)
			}
		}
	}
}

// mayAnswer holds whether x, of which l has those open, may be put to l; if so, its Id is open no more.
func mayAnswer(t *testing.T, l []api.Event, open []int, x api.Event) {
	t.Helper()
	grown := append(slices.Clip(l), x)
	may := slices.Contains(open, x.Id) && has(l, x.Id, api.EvTimed) == (x.Kind == api.EvFired)
	if at, e := event.Form(grown); may != (e == api.OK) || !may && (at != len(l) || e != api.ErrShape) {
		t.Fatalf("%s behind %s: %d, %d", short(x), short(l...), at, e)
	}
	left := slices.DeleteFunc(slices.Clone(open), func(id int) bool { return !may || id == x.Id })
	if is := event.Open(grown); !slices.Equal(is, left) {
		t.Fatalf("%s behind %s: open is %v", short(x), short(l...), is)
	}
}

// TestThereAndBack holds that what was packed is unpacked as it was.
func TestThereAndBack(t *testing.T) { // P17.5, P17.7
	d := draws(9)
	for range 3000 {
		l := d.history(d.below(30))
		if d.below(2) == 0 { // form is nothing that bytes ask for
			l = append(l, one(&d, samples()...), one(&d, samples()...), one(&d, l...))
		}
		b, e := event.Pack(l)
		if e != api.OK || !bytes.Equal(b, plainPack(l)) {
			t.Fatalf("Pack of %s: %x, %d", short(l...), b, e)
		}
		back, n, e := event.Unpack(b)
		if !event.Same(back, l) || n != len(b) || e != api.OK {
			t.Fatalf("Unpack of %.200x: %s, %d, %d", b, short(back...), n, e)
		}
		again, e := event.Pack(back)
		if !bytes.Equal(again, b) || e != api.OK {
			t.Fatalf("Pack of Unpack of %.200x: %.200x, %d", b, again, e)
		}
	}
}
