package walk_test

import (
	"slices"
	"testing"

	"prompter/api"
	"prompter/walk"
)

// roomy is l with spare room behind it, in which there is so often x.
func roomy[L ~[]E, E any](l L, x E) L {
	return append(slices.Clone(l), slices.Repeat([]E{x}, 9)...)[:len(l)]
}

// spoil puts x everywhere into l, into its spare room too.
func spoil[L ~[]E, E any](l L, x E) {
	l = l[:cap(l)]
	for i := range l {
		l[i] = x
	}
}

// What stands in spare room.
var (
	spareNode  = api.Node{Kind: 9, Text: "spare"}
	spareTwig  = api.Twig{Op: 99, Text: "spare"}
	spareEvent = api.Event{Kind: 99, Name: "spare"}
)

// handed is what is handed in, with spare room behind each list.
type handed struct {
	flow api.Tree
	args api.Value
	feed []api.Event
}

func hand(flow api.Tree, args api.Value, feed []api.Event) handed {
	h := handed{roomy(flow, spareTwig), roomy(args, spareNode), roomy(feed, spareEvent)}
	for i, x := range h.feed {
		h.feed[i].Value = roomy(x.Value, spareNode)
	}
	return h
}

// isAs fails unless what was handed in, its spare room too, is as it was.
func (h handed) isAs(t *testing.T, flow api.Tree, args api.Value, feed []api.Event) {
	t.Helper()
	is := hand(flow, args, feed)
	ok := slices.Equal(h.flow[:len(flow)+9], is.flow[:len(flow)+9]) && slices.Equal(h.args[:len(args)+9], is.args[:len(args)+9]) && same(h.feed[:len(feed)+9], is.feed[:len(feed)+9])
	for i, x := range feed {
		n := len(x.Value) + 9
		ok = ok && slices.Equal(h.feed[i].Value[:n], is.feed[i].Value[:n])
	}
	if !ok {
		t.Fatalf("%s, %s, %s was changed: %s, %s, %s", short(flow), short(args), short(feed), short(h.flow), short(h.args), short(h.feed))
	}
}

// spoil spoils all that was handed in.
func (h handed) spoil() {
	for _, x := range h.feed {
		spoil(x.Value, spareNode)
	}
	spoil(h.flow, spareTwig)
	spoil(h.args, spareNode)
	spoil(h.feed, spareEvent)
}

// own holds a run's memory: what is handed in is only read, what is answered is new.
func own(t *testing.T, flow api.Tree, args api.Value, version int64, fuel int, feed []api.Event) {
	t.Helper()
	want := plain(flow, args, version, fuel, feed)
	for i := range len(want.orders) + 2 {
		h := hand(flow, args, feed)
		l, cuts, _, _ := walk.Walk(h.flow, h.args, version, fuel, h.feed)
		again, cutsAgain, _, _ := walk.Walk(h.flow, h.args, version, fuel, h.feed)
		h.isAs(t, flow, args, feed)
		// One list of the answer is spoilt: all others stay.
		switch i {
		case len(want.orders):
			spoil(cuts, 77)
			cuts = want.cuts
		case len(want.orders) + 1:
			h.spoil()
		default:
			spoil(l[i].Value, spareNode)
			l[i].Value = want.orders[i].Value
			h.isAs(t, flow, args, feed)
		}
		if !same(l, want.orders) || !same(again, want.orders) || !slices.Equal(cuts, want.cuts) || !slices.Equal(cutsAgain, want.cuts) {
			t.Fatalf("%s: list %d was spoilt: %s, %s, not %s", short(flow), i, short(l), short(again), short(want.orders))
		}
		spoil(l, spareEvent)
		if !same(again, want.orders) {
			t.Fatalf("%s: the orders of one call are those of another one", short(flow))
		}
	}
}

func TestMemory(t *testing.T) { // P13.2
	long := list(in(1), list(text("x"), none), yes)
	for _, c := range []struct {
		s    string
		args []api.Value
		feed []api.Event
	}{
		{"flow f(a) { return a }", []api.Value{long}, nil},
		{"flow f(a, b) { do call g(a, a) do child g(a, b) do call g(b, a) fail b }", []api.Value{long, list()}, nil},
		{"flow f(a) { let b = a do call g(a) b = [a, b] do child g(b) return a }", []api.Value{long}, nil},
		{"flow f() { return await call g() }", nil, feeds(done(0, long))},
		{"flow f() { let h = call g() do call g(await h, await h) let i = fork { return await h } do child g(await i) fail await h }", nil, feeds(done(0, long))},
		{"flow f() { return take s }", nil, feeds(signaled("s", long))},
		{"flow f() { fail take s }", nil, feeds(signaled("s", long))},
		{"flow f() { let a = take s do call g(a) do call g(a) do call g(a, take s) return a }", nil, feeds(signaled("s", long), signaled("s", long))},
		{"flow f() { let h = call g() return (settle h) [1] }", nil, feeds(done(0, long))},
		{"flow f() { return settle call g() }", nil, feeds(broke(0, 5))},
		{"flow f() { let a = [1, 2] let h = fork { do call g(a) return a } do await h return await h }", nil, nil},
		{"flow f() { sleep 3 do timer(4) do take s }", nil, feeds(fired(0), signaled("t", long))},
		{"flow f() { do call g() do 1 / 0 }", nil, nil},
		{"flow f(a) { do call g(a) return a }", []api.Value{long}, feeds(fired(0))}, // refused
	} {
		own(t, of(t, c.s), list(c.args...), 1, 100, c.feed)
	}
	s := &strewn{draws: 71}
	for range 1000 {
		r := s.run(t, &seen{})
		own(t, r.flow, r.args, r.version, r.fuel, r.feed)
		own(t, r.flow, r.args, r.version, r.fuel, append(r.feed, spareEvent))
		own(t, r.flow[:len(r.flow)-1], r.args, r.version, r.fuel, r.feed)
		own(t, r.flow, slices.Concat(r.args, none), r.version, -1, r.feed)
	}
}

// TestOneListTwice hands in lists that share memory.
func TestOneListTwice(t *testing.T) { // P13.2
	v := list(in(1), in(2))
	x := of(t, "flow f(a, b) { let h = call g() do call g(a, b) return [await h, take s, take s] }")
	feed := feeds(signaled("s", v), signaled("s", v[1:2]), done(0, v))
	l, cuts, at, e := walk.Walk(x, v, 1, 100, feed)
	want := orders(called(0, "g"), called(1, "g", in(1), in(2)), returned(list(list(in(1), in(2)), list(in(1), in(2)), in(1))))
	if !same(l, want) || !slices.Equal(cuts, []int{2, 2, 2, 3}) || at != 0 || e != api.OK || !slices.Equal(v, list(in(1), in(2))) {
		t.Errorf("%s, %v, %d, %d", short(l), cuts, at, e)
	}
}

// TestAgain holds that calls know nothing of those ahead of them.
func TestAgain(t *testing.T) { // P13.1
	for range 3 {
		runs(t, "flow f() { return [call a(), fork { }, take s] }", nil, feeds(signaled("s", none)), orders(called(0, "a"), returned(list(in(0), in(1), none))), 1, 2)
		isRefused(t, "flow f() { return [call a(), take s] }", feeds(signaled("s", none), signaled("s", none)), 1, api.ErrFull)
		runs(t, "flow f() { return [call a(), take s] }", nil, feeds(signaled("t", none)), orders(called(0, "a")), 1, 1)
		isTold(t, nil, nil, 0, 0, nil, answer{e: api.ErrShape})
	}
}
