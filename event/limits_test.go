package event_test

import (
	"slices"
	"testing"

	"prompter/api"
	"prompter/event"
)

// filled is l with so many signals behind it that there are n events.
func filled(l []api.Event, n int) []api.Event {
	return append(slices.Clip(l), slices.Repeat([]api.Event{{Kind: api.EvSignaled, Name: "a", Value: nought}}, n-len(l))...)
}

func TestMostEvents(t *testing.T) { // P17.2, P17.3, P17.5
	most := filled(history(started(), decided(2), called(7), timed(9)), 4096)
	isFormed(t, most[:4095], 0, api.OK)
	isFormed(t, most, 0, api.OK)
	isFormed(t, append(slices.Clone(most[:4094]), decided(1), returned()), 0, api.OK)
	isFormed(t, append(slices.Clone(most[:4094]), decided(2), called(10)), 4096, api.ErrShort)
	isFormed(t, append(slices.Clone(most[:4095]), decided(501)), 4096, api.ErrShort)
	isFormed(t, append(slices.Clone(most[:4095]), done(9)), 4095, api.ErrShape)
	isFormed(t, append(slices.Clone(most[:4095]), fired(9)), 0, api.OK)
	isFormed(t, make([]api.Event, 4096), 0, api.ErrShape)
	for _, n := range []int{4097, 4098, 5000, 100000} {
		for _, l := range [][]api.Event{filled(most, n), make([]api.Event, n), slices.Repeat(history(started()), n)} {
			isFormed(t, l, 4096, api.ErrLong)
			if b, e := event.Pack(l); len(b) > 0 || e != api.ErrLong {
				t.Errorf("Pack of %d events: %.200x, %d", n, b, e)
			}
			if c := event.Copy(l); !event.Same(c, l) || event.Same(c, l[1:]) {
				t.Errorf("Copy of %d events", n)
			}
		}
		isUnpacked(t, plainPack(filled(most, n)), nil, 0, api.ErrLong)
	}
	for _, l := range [][]api.Event{most, most[:4095], slices.Repeat(history(fired(499)), 4096)} {
		b, e := event.Pack(l)
		if !slices.Equal(b, plainPack(l)) || e != api.OK {
			t.Errorf("Pack of %d events: %.200x, %d", len(l), b, e)
		}
		isUnpacked(t, b, l, len(b), api.OK)
		isUnpacked(t, append(b, 0), nil, len(b), api.ErrShape)
		isUnpacked(t, b[:len(b)-1], nil, len(b)-1, api.ErrShort)
	}
	if b, e := event.Pack(append(slices.Clone(most[:4095]), api.Event{})); len(b) > 0 || e != api.ErrShape {
		t.Errorf("Pack of a wrong event at the end: %.200x, %d", b, e)
	}
}

// TestMostHandles holds decisions with orders for all handles.
func TestMostHandles(t *testing.T) { // P17.1 to P17.3
	for _, make := range []func(id int) api.Event{called, timed, asked} {
		l := history(started(), decided(501))
		var open []int
		for id := range 500 {
			isFormed(t, l, len(l), api.ErrShort)
			l = append(l, make(id))
			open = append(open, id)
		}
		isFormed(t, l, 502, api.ErrShort)
		isFormed(t, append(slices.Clip(l), make(499)), 502, api.ErrShape)
		isFormed(t, append(slices.Clip(l), make(500)), 502, api.ErrShape)
		isFormed(t, append(slices.Clip(l), done(3)), 502, api.ErrShape)
		for _, end := range history(returned(), failed(), faulted()) {
			isFormed(t, append(slices.Clip(l), end), 0, api.OK)
			isFormed(t, append(slices.Clip(l), end, end), 503, api.ErrShape)
		}
		l[1] = decided(500)
		isFormed(t, l, 0, api.OK)
		for len(open) > 0 { // the middle one of those that are left comes first
			i := len(open) / 2
			l = append(l, answer(l, open[i], i%2 == 0))
			isFormed(t, append(slices.Clip(l), l[len(l)-1]), len(l), api.ErrShape)
			open = slices.Delete(open, i, i+1)
			if is := event.Open(l); !slices.Equal(is, open) {
				t.Fatalf("Open: %v, not %v", is, open)
			}
		}
		isFormed(t, append(slices.Clip(l), decided(1), returned()), 0, api.OK)
		isFormed(t, append(slices.Clip(l), decided(1), make(499)), len(l)+1, api.ErrShape)
	}
}

// TestLongHistories holds what is wrong late.
func TestLongHistories(t *testing.T) { // P17.2, P17.7
	d := draws(11)
	for range 30 {
		l := d.history(300)
		isPlain(t, l)
		for range 20 {
			isPlain(t, d.changed(l))
		}
	}
}

// TestGreatestEvents holds the bytes of events whose values are as large as may be.
func TestGreatestEvents(t *testing.T) { // P17.4, P17.5
	number := complex(1.5, -1e300)
	wide := append(api.Value{{Kind: api.KList, Kids: 1023}}, slices.Repeat(api.Value{{Kind: api.KNum, Num: number}}, 1023)...)
	for _, v := range []api.Value{wide, widest, heavy} {
		var l []api.Event
		for _, kind := range []byte{api.EvCalled, api.EvAsked, api.EvStarted, api.EvSignaled} {
			l = append(l, api.Event{Kind: kind, Name: "abcdefghijklmnopqrstuvwx", Value: v})
		}
		for _, kind := range []byte{api.EvReturned, api.EvFailed, api.EvDone} {
			l = append(l, api.Event{Kind: kind, Value: v})
		}
		for _, x := range l {
			b, e := event.Bytes(x)
			if !slices.Equal(b, plainBytes(x)) || e != api.OK {
				t.Errorf("Bytes of %s: %.200x, %d", short(x), b, e)
			}
			isRead(t, b, x, len(b), api.OK)
		}
		all := slices.Repeat(l, 100)
		b, e := event.Pack(all)
		if !slices.Equal(b, plainPack(all)) || e != api.OK {
			t.Errorf("Pack of %s: %.200x, %d", short(l...), b, e)
		}
		isUnpacked(t, b, all, len(b), api.OK)
	}
}
