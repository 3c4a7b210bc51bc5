package vm_test

import (
	"slices"
	"sync"
	"testing"

	"prompter/api"
	"prompter/vm"
)

// roomy is l with spare room behind it, in which there is so often x.
func roomy[L ~[]E, E any](l L, x E) L {
	return append(slices.Clone(l), slices.Repeat([]E{x}, 9)...)[:len(l)]
}

// spoil puts x everywhere into l, into its spare room too.
func spoil[L ~[]E, E any](l L, x E) {
	l = l[:cap(l)]
	for i := range l {
		l[i] = x
	}
}

// isRoomy fails unless l is as roomy made it of was.
func isRoomy[L ~[]E, E comparable](t *testing.T, l, was L, x E) {
	t.Helper()
	if n := len(was) + 9; !slices.Equal(l[:n], roomy(was, x)[:n]) {
		t.Fatalf("%s was changed: %s", short(was), short(l[:n]))
	}
}

// What stands in spare room.
var (
	spareNode  = api.Node{Kind: 9, Text: "spare"}
	spareInstr = api.Instr{Op: 99, A: 99, Text: "spare"}
	spareEvent = api.Event{Kind: 99, Name: "spare"}
)

// own holds a run's memory: what is handed in is only read and not kept, what is answered is new. What is spoilt of each answer is the list of that number.
func own(t *testing.T, r run, feed []api.Event, number int) {
	t.Helper()
	want := plain(r, feed)
	given := r
	given.code, given.args = roomy(r.code, spareInstr), roomy(r.args, spareNode)
	m, e := given.machine()
	isRoomy(t, given.code, r.code, spareInstr)
	isRoomy(t, given.args, r.args, spareNode)
	spoil(given.code, spareInstr)
	spoil(given.args, spareNode)
	isState(t, "what was handed in is spoilt", m, e, want[0])
	var twins []*vm.Machine
	for i, x := range feed {
		if m == nil {
			return
		}
		twins = append(twins, m.Twin())
		x.Value = roomy(x.Value, spareNode)
		e := m.Feed(x)
		isRoomy(t, x.Value, feed[i].Value, spareNode)
		spoil(x.Value, spareNode)
		isState(t, "what was fed is spoilt", m, e, want[i+1])
		isSpoilt(t, m, number, want[i+1])
	}
	for i, twin := range twins {
		goesOn(t, r, twin, i, feed, want)
		isSpoilt(t, twin, number, want[len(feed)])
	}
	if t.Failed() {
		t.FailNow()
	}
}

// isSpoilt spoils one list of what a machine answers: all others stay, and the machine answers the same once more.
func isSpoilt(t *testing.T, m *vm.Machine, number int, want state) {
	t.Helper()
	l, open := m.Orders(), m.Open()
	if number < len(l) {
		spoil(l[number].Value, spareNode)
		l[number].Value = want.orders[number].Value
	}
	if !same(l, want.orders) {
		t.Fatalf("the list %d was spoilt: %s, not %s", number, short(l), short(want.orders))
	}
	spoil(l, spareEvent)
	spoil(open, 77)
	isState(t, "what was answered is spoilt", m, want.e, want)
}

func TestMemory(t *testing.T) { // P16.5, P16.7
	long := list(in(1), list(text("x"), none), yes)
	for _, c := range []struct {
		r    run
		feed []api.Event
	}{
		{of("load 0; return").with(long), nil},
		{of("load 0; load 0; call 2 g; drop; load 0; load 1; child 2 g; drop; load 1; load 0; call 2 g; drop; load 1; fail").with(long, list()), feeds(fired(0))},
		{of("load 0; store 1; load 0; call 1 g; drop; load 1; load 1; list 2; store 1; take s; return").with(long), feeds(signaled("s", long))},
		{of("call 0 g; store 0; load 0; await; load 0; await; call 2 g; drop; fork 14; await; child 1 g; drop; load 0; await; fail; load 0; await; return"), feeds(done(0, long), done(1, long))},
		{of("call 0 g; await; return"), feeds(done(0, long))},
		{of("call 0 g; settle; int 1; at; return"), feeds(done(0, long))},
		{of("call 0 g; settle; return"), feeds(broke(0, 5))},
		{of("take s; return"), feeds(signaled("t", long), signaled("s", long))},
		{of("take s; store 0; load 0; call 1 g; drop; load 0; call 1 g; drop; load 0; take s; call 2 g; drop; load 0; return"), feeds(signaled("s", long), signaled("s", list(in(2))))},
		{of("int 3; timer; int 4; sleep; await; return"), feeds(fired(1), fired(0))},
		{of("int 3; timer; child 0 a; call 0 b; take s; list 4; return"), feeds(fired(0), done(2, long), done(2, long), broke(1, 1), signaled("s", long))},
		{of("call 0 a; none; neg; list 2; return"), feeds(done(0, long))},
	} {
		for number := range 7 {
			own(t, c.r, c.feed, number)
		}
	}
	d := draws(77)
	for range 1500 {
		r, feed := d.strewn()
		own(t, r, feed, d.below(6))
		r.fuel = -1
		own(t, r, feed, 0)
	}
}

// TestOneListTwice hands in lists that share memory.
func TestOneListTwice(t *testing.T) { // P16.5
	v := list(in(1), in(2))
	r := of("load 0; load 1; call 2 g; await; take s; take s; list 3; return").with(in(1), in(2))
	r.args = v
	feed := feeds(signaled("s", v), signaled("s", v[1:2]), done(0, v))
	runs(t, r, feed, orders(called(0, "g", in(1), in(2)), returned(list(v, v, in(1)))), 1, 1, 1, 2)
	if !slices.Equal(v, list(in(1), in(2))) {
		t.Errorf("what was handed in was changed: %v", v)
	}
}

// TestAgain holds that machines know nothing of one another.
func TestAgain(t *testing.T) { // P16.1
	r := of("call 0 a; fork 5; take s; list 3; return; end")
	var all []*vm.Machine
	for range 3 {
		m, _ := r.machine()
		all = append(all, m)
	}
	for _, m := range all {
		goesOn(t, r, m, 0, feeds(signaled("s", none), signaled("s", none)), plain(r, feeds(signaled("s", none), signaled("s", none))))
	}
}

// TestAtOnce feeds twins at once: they share nothing that changes.
func TestAtOnce(t *testing.T) { // P16.7
	r := of("load 1; load 0; lt; branch 13; take s; store 2; load 1; load 2; add; store 1; load 1; call 1 a; jump 16; load 1; return; end; drop; jump 0").with(in(40), in(0))
	m, _ := r.machine()
	var feed []api.Event
	for i := range 30 {
		feed = append(feed, signaled("s", in(int64(i%4))))
	}
	want := plain(r, feed)
	if !want[len(feed)].closed {
		t.Fatal("the run does not close")
	}
	var all sync.WaitGroup
	twins := make([]*vm.Machine, 8)
	for i := range twins {
		twins[i] = m.Twin()
		all.Go(func() {
			for _, x := range feed {
				twins[i].Feed(x)
				twins[i] = twins[i].Twin()
			}
		})
	}
	all.Wait()
	for _, twin := range twins {
		isState(t, "a twin", twin, want[len(feed)].e, want[len(feed)])
	}
}
