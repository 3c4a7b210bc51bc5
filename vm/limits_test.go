package vm_test

import (
	"fmt"
	"slices"
	"strings"
	"testing"

	"prompter/api"
)

func TestMostSteps(t *testing.T) { // P16.1, P16.3
	loop := of("true; branch 3; jump 0; end")
	for _, fuel := range []int{0, 1, 2, 3, 9, 10, 11, 1<<20 - 1, 1 << 20} {
		comes(t, loop.fueled(fuel), faulted(130), fuel)
	}
	count := of("load 0; int 131071; lt; branch 9; load 0; int 1; add; store 0; jump 0; load 0; return").with(in(0))
	steps := 131072*4 + 131071*4 + 2 // each turn has eight, the last one four
	comes(t, count.fueled(steps), returned(in(131071)), steps)
	comes(t, count.fueled(steps-1), faulted(130), steps-1)
	comes(t, count.fueled(1<<20), returned(in(131071)), steps)
	// What costs nothing needs no fuel.
	for _, s := range []string{"end", "jump 1; end", "jump 2; end; jump 1"} {
		comes(t, of(s).fueled(0), returned(none), 0)
	}
	comes(t, of("true; bool; jump 3; bool; drop; end").fueled(2), returned(none), 2)
	comes(t, of("true; bool; jump 3; bool; drop; end").fueled(1), faulted(130), 1)
	// The steps of all strands count together, and those behind feeds too.
	r := of("fork 5; drop; take s; drop; end; true; drop; take s; drop; end")
	for fuel := range 10 {
		l := hold(t, r.fueled(fuel), signaled("s", none), signaled("s", none))
		if last := l[len(l)-1]; (fuel < 7) != (last.orders[len(last.orders)-1].Int == 130) {
			t.Errorf("the fuel %d: %s", fuel, short(l))
		}
	}
	// A wait that is over costs nothing more.
	runs(t, of("call 0 a; await; return").fueled(3), feeds(done(0, yes)), orders(called(0, "a"), returned(yes)), 1, 2)
	runs(t, of("call 0 a; await; return").fueled(2), feeds(done(0, yes)), orders(called(0, "a"), faulted(130)), 1, 2)
	runs(t, of("call 0 a; await; return").fueled(1), nil, orders(called(0, "a"), faulted(130)), 2)
	runs(t, of("int 1; sleep; end").fueled(2), feeds(fired(0)), orders(timed(0, 1), returned(none)), 1, 2)
}

// makers are what makes a handle, at once, and leaves nothing on the stack.
var makers = []struct {
	s     string
	order func(id int) api.Event
}{
	{"call 0 a; drop", func(id int) api.Event { return called(id, "a") }},
	{"child 0 a; drop", func(id int) api.Event { return asked(id, "a") }},
	{"int 4; timer; drop", func(id int) api.Event { return timed(id, 4) }},
	{"int 4; sleep", func(id int) api.Event { return timed(id, 4) }},
	{"fork 0; drop", nil},
}

// turns is code that does that so often as the parameter says, and goes on behind it at the place next.
func turns(s string) (loop string, next int) {
	next = 10 + strings.Count(s, ";")
	return fmt.Sprintf("load 1; load 0; lt; branch %d; %s; load 1; int 1; add; store 1; jump 0", next, s), next
}

func TestMostHandles(t *testing.T) { // P16.1, P16.2
	for _, m := range makers[:3] {
		loop, _ := turns(m.s)
		var all []api.Event
		for id := range 500 {
			all = append(all, m.order(id))
		}
		for _, n := range []int64{499, 500} {
			r := of(loop+"; take s; drop; end").with(in(n), in(0))
			runs(t, r, feeds(signaled("s", none)), append(all[:n:n], returned(none)), int(n), int(n)+1)
			for _, last := range makers {
				want, feed := orders(faulted(131)), feeds(signaled("s", none))
				if n == 499 {
					want = orders(returned(in(7)))
					if last.order != nil {
						want = orders(last.order(499), returned(in(7)))
					}
					if last.s == "int 4; sleep" {
						feed = append(feed, fired(499))
					}
				}
				_, end := turns(m.s)
				s := loop + "; take s; drop; " + last.s + "; int 7; return; end"
				if last.order == nil { // a strand that ends at once
					s = strings.Replace(s, "fork 0", fmt.Sprint("fork ", end+6), 1)
				}
				l := hold(t, of(s).with(in(n), in(0)), feed...)
				if got := l[len(l)-1].orders; !same(got, append(all[:n:n], want...)) {
					t.Errorf("%d of %s, then %s: %s", n, m.s, last.s, short(got[n:]))
				}
			}
		}
		runs(t, of(loop+"; take s; drop; end").with(in(501), in(0)), nil, append(all, faulted(131)), 501)
	}
	// Handles that are done count too.
	var feed, want []api.Event
	cuts := []int{1}
	for id := range 500 {
		feed, want, cuts = append(feed, fired(id)), append(want, timed(id, 3)), append(cuts, id+2)
	}
	l := plain(of("int 3; sleep; jump 0"), feed)
	m, _ := of("int 3; sleep; jump 0").machine()
	for i, x := range feed {
		isState(t, "sleeps", m, m.Feed(x), l[i+1])
	}
	if got := m.Orders(); !same(got, append(want, faulted(131))) || len(got) != cuts[500] {
		t.Errorf("500 sleeps: %s", short(got))
	}
}

func TestMostStrands(t *testing.T) { // P16.1
	for n := range 22 {
		// So many forks; each strand calls.
		s := strings.Repeat("fork 50; drop; ", n) + "take s; drop; " + strings.Repeat("end; ", 48-2*n) + "call 0 a; drop; end"
		if n < 20 {
			var l []api.Event
			for i := range n {
				l = append(l, called(n+i, "a"))
			}
			runs(t, of(s), feeds(signaled("s", none)), append(l, returned(none)), n, n+1)
		} else {
			comes(t, of(s), faulted(131), 39)
		}
		// Those that have ended count too.
		s = strings.Repeat("fork 66; await; drop; ", n) + "end; " + strings.Repeat("end; ", 65-3*n) + "end"
		want, steps := returned(none), 3*n
		if n >= 20 {
			want, steps = faulted(131), 3*19+1
		}
		comes(t, of(s), want, steps)
	}
	// Each strand makes another one, up to the 20th.
	comes(t, of("fork 0; await; return"), faulted(131), 39)
	// Too many handles and too many strands are one fault.
	loop, end := turns("call 0 a; drop")
	forks := fmt.Sprintf("fork %d; drop", end+2*20+2)
	s := strings.Repeat("; "+forks, 20)
	hold(t, of(loop+"; take s; drop"+s+"; end").with(in(500), in(0)), signaled("s", none))
	hold(t, of(loop+"; take s; drop"+s+"; end").with(in(481), in(0)), signaled("s", none))
	hold(t, of(loop+"; take s; drop"+s+"; end").with(in(480), in(0)), signaled("s", none))
}

// TestLargeValues holds values that are too large where the code makes them.
func TestLargeValues(t *testing.T) { // P16.1, P16.2
	row := slices.Repeat([]api.Value{no}, 1023)
	full, long := list(row...), text(strings.Repeat("x", 4095)) // the most nodes, the most bytes
	for _, v := range []api.Value{full, list(row[:1022]...), long, text(strings.Repeat("x", 4094))} {
		fits := len(v)+len(v[0].Text) < 4096 && len(v) < 1024
		want := func(x ...api.Event) []api.Event {
			if fits {
				return x
			}
			return orders(faulted(122))
		}
		signal := feeds(signaled("a", v))
		runs(t, of("take a; return"), signal, orders(returned(v)), 0, 1)
		runs(t, of("take a; fail"), signal, orders(failed(v)), 0, 1)
		runs(t, of("call 0 a; await; return"), feeds(done(0, v)), orders(called(0, "a"), returned(v)), 1, 2)
		runs(t, of("take a; store 0; fork 5; await; return; load 0; return"), signal, orders(returned(v)), 0, 1)
		runs(t, of("take a; list 1; return"), signal, want(returned(list(v))), 0, 1)
		// True and the value are a node more than the value in a list.
		runs(t, of("call 0 a; settle; return"), feeds(done(0, v)), orders(called(0, "a"), faulted(122)), 1, 2)
		runs(t, of("take a; call 1 a; drop; end"), signal, want(called(0, "a", v), returned(none)), 0, len(want(v0, v0)))
		runs(t, of("take a; child 1 a; drop; end"), signal, want(asked(0, "a", v), returned(none)), 0, len(want(v0, v0)))
	}
	least := list(row[:1021]...)
	runs(t, of("call 0 a; settle; return"), feeds(done(0, least)), orders(called(0, "a"), returned(list(yes, least))), 1, 2)
	comes(t, of("load 0; load 0; add; store 0; jump 0").with(list(none)), faulted(122), 10*4-1)
	comes(t, of("load 0; load 0; add; store 0; jump 0").with(text("x")), faulted(122), 12*4-1)
	comes(t, of("load 0; load 0; list 2; store 0; jump 0").with(none), faulted(122), 10*4-1)
	comes(t, of("load 0; return").with(list(row[:1022]...)), returned(list(row[:1022]...)), 2)
	// Arguments that are too large go ahead of too many handles.
	loop, _ := turns("call 0 a; drop")
	var calls []api.Event
	for id := range 500 {
		calls = append(calls, called(id, "a"))
	}
	for _, c := range []struct {
		s     string
		fault int64
	}{
		{"load 2; load 2; call 2 a; fail", 122}, {"load 2; load 2; child 2 a; fail", 122}, {"call 0 a; fail", 131}, {"load 2; sleep; end", 120}, {"none; timer; fail", 120}, {"int 1; timer; fail", 131}, {"int 1; sleep; end", 131},
	} {
		runs(t, of(loop+"; "+c.s).with(in(500), in(0), list(row[:1000]...)), nil, append(calls[:500:500], faulted(c.fault)), 501)
	}
}

// v0 is any order.
var v0 = returned(none)

// TestLargeCodes holds the longest codes, the deepest stacks, the greatest lists, and all slots.
func TestLargeCodes(t *testing.T) { // P16.1
	nones, drops := slices.Repeat(code("none"), 4095), slices.Repeat(code("drop"), 4095)
	deep := run{slices.Concat(nones, drops, code("end")), 0, list(), 0, 10000}
	comes(t, deep, returned(none), 8190)
	waiting := run{slices.Concat(nones, code("take s"), drops, code("return")), 0, list(), 0, 10000}
	runs(t, waiting, feeds(signaled("s", in(1))), orders(returned(none)), 0, 1)
	holdTwins(t, waiting, feeds(signaled("t", in(1)), signaled("s", in(2))), feeds(signaled("s", in(3))))
	for _, n := range []int{0, 1, 1022, 1023, 1024, 2048} {
		r := run{slices.Concat(slices.Repeat(code("none"), n), []api.Instr{{Op: api.IList, A: n}, {Op: api.IReturn}}), 0, list(), 0, 10000}
		if n <= 1023 {
			comes(t, r, returned(list(slices.Repeat([]api.Value{none}, n)...)), n+2)
		} else {
			comes(t, r, faulted(122), n+1)
		}
		for _, op := range []byte{api.ICall, api.IChild} {
			r.code[n] = api.Instr{Op: op, A: n, Text: "a"}
			l := hold(t, r)
			if (n <= 1023) != (len(l[0].orders) == 2) {
				t.Errorf("%d arguments: %s", n, short(l))
			}
		}
	}
	// Jumps from the end to the front.
	chain := slices.Repeat(code("end"), 8192)
	for i := 2; i < 8192; i++ {
		chain[i] = api.Instr{Op: api.IJump, A: i - 1}
	}
	chain[0] = api.Instr{Op: api.IJump, A: 8191}
	comes(t, run{chain, 0, list(), 0, 0}, returned(none), 0)
	bools := run{slices.Concat(code("true"), slices.Repeat(code("bool"), 8190), code("return")), 0, list(), 0, 2}
	comes(t, bools, returned(yes), 2)
	// All slots, and all parameters.
	var args []api.Value
	var loads []api.Instr
	for i := range 100 {
		args = append(args, in(int64(i)))
		loads = append(loads, api.Instr{Op: api.ILoad, A: 99 - i})
	}
	loads = append(loads, api.Instr{Op: api.IList, A: 100}, api.Instr{Op: api.IReturn})
	back := slices.Clone(args)
	slices.Reverse(back)
	comes(t, run{loads, 100, list(args...), 0, 200}, returned(list(back...)), 102)
	comes(t, run{loads, 1, list(yes), 0, 200}, returned(list(append(slices.Repeat([]api.Value{none}, 99), yes)...)), 102)
}

// TestManySignals holds long rows of signals.
func TestManySignals(t *testing.T) { // P16.2
	const n = 20000
	r := of("take go; drop; take s; store 0; take u; load 0; lt; branch 2; load 0; return").fueled(1 << 20)
	m, _ := r.machine()
	for i := range n {
		for _, name := range []string{"s", "u"} {
			if e := m.Feed(signaled(name, in(int64(i)))); e != api.OK {
				t.Fatal(e)
			}
		}
	}
	twin := m.Twin()
	m.Feed(signaled("go", none))
	if m.Closed() || m.Steps() != 2+n*6+1 {
		t.Errorf("%d steps, %s", m.Steps(), short(m.Orders()))
	}
	m.Feed(signaled("s", in(7)))
	m.Feed(signaled("u", in(6)))
	if !same(m.Orders(), orders(returned(in(7)))) {
		t.Errorf("%s", short(m.Orders()))
	}
	twin.Feed(signaled("s", in(8)))
	twin.Feed(signaled("go", none))
	twin.Feed(signaled("u", in(1)))
	if !same(twin.Orders(), orders(returned(in(8)))) {
		t.Errorf("the twin: %s", short(twin.Orders()))
	}
}
