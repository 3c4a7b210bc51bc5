package walk_test

import (
	"fmt"
	"strings"
	"testing"

	"prompter/api"
	"prompter/walk"
)

// params are so many parameters p0, p1 ..
func params(n int) string {
	var l []string
	for i := range n {
		l = append(l, fmt.Sprint("p", i))
	}
	return strings.Join(l, ", ")
}

// costs fails unless a source needs just so many steps: with one less its last step is not done.
func costs(t *testing.T, s string, steps int, feed ...api.Event) {
	t.Helper()
	x := of(t, s)
	full := plain(x, list(), 3, 10000, feed)
	if full.e != api.OK || full.steps != steps {
		t.Errorf("%q: %d, %d steps, not %d", s, full.e, full.steps, steps)
	}
	isTold(t, x, list(), 3, steps, feed, full)
	if steps == 0 {
		return
	}
	// Feeds behind the fault would be refused.
	for n := range len(feed) + 1 {
		a := hold(t, x, list(), 3, steps-1, feed[:n])
		if a.e == api.OK && len(a.orders) > 0 && same(a.orders[len(a.orders)-1:], orders(faulted(130))) {
			return
		}
	}
	t.Errorf("%q: no fault with %d steps", s, steps-1)
}

func TestSteps(t *testing.T) { // P13.1
	costs(t, "flow f() { }", 0)
	for s, steps := range map[string]int{
		"none": 1, "true": 1, "false": 1, "7": 1, `"a"`: 1, "version": 1, "[]": 1, "[1]": 2, "[1, 2, [3]]": 5, "1 + 2": 3, "1 - 2 * 3": 5, "not true": 2, "- - 1": 3, "len([])": 2, "num(1, 2)": 3, `"a" [0]`: 3, "1 == 2": 3,
		"true or 1": 2, "false or true": 3, "false or false or true": 5, "true or true or true": 3, "true and true": 3, "false and 1": 2, "not (false or true)": 4, "true and (false or true)": 5,
		"call a()": 1, "call a(1, [2])": 4, "child a()": 1, "child a(none)": 2, "timer(1)": 2, "fork { }": 1, "fork { do 1 }": 1, "[fork { return [1, 2] }, 1]": 3,
	} {
		costs(t, "flow f() { do "+s+" }", steps+1)
		costs(t, "flow f() { let a = "+s+" }", steps+1)
		costs(t, "flow f() { let a = 1 a = "+s+" }", steps+3)
		costs(t, "flow f() { let a = 1 let b = a do ["+s+", a, b] }", steps+8)
		costs(t, "flow f() { return "+s+" }", steps+1)
		costs(t, "flow f() { fail "+s+" }", steps+1)
		costs(t, "flow f() { if true { do "+s+" } }", steps+3)
		costs(t, "flow f() { if false { do "+s+" } }", 2)
		costs(t, "flow f() { if true { do "+s+" } else { } do 1 }", steps+5)
		costs(t, "flow f() { if false { } else { do "+s+" } }", steps+3)
		costs(t, "flow f() { let a = true while a { do "+s+" a = false } }", steps+9)
	}
	costs(t, "flow f() { if true { } if false { } else { } while false { } }", 6)
	costs(t, "flow f() { let i = 0 while i < 3 { i = i + 1 } }", 2+4*4+3*4)
	costs(t, "flow f() { do await fork { } }", 3)
	costs(t, "flow f() { do await fork { do 1 } return 5 }", 7)
	costs(t, "flow f() { do settle fork { return [1] } }", 6)
	costs(t, "flow f() { sleep 3 }", 2, fired(0))
	costs(t, "flow f() { sleep 3 sleep 3 }", 4, fired(0), fired(1))
	costs(t, "flow f() { return await timer(3) }", 4, fired(0))
	costs(t, "flow f() { return await call a() }", 3, done(0, none))
	costs(t, "flow f() { return await call a() }", 2, broke(0, 7))
	costs(t, "flow f() { return settle call a() }", 3, broke(0, 7))
	costs(t, "flow f() { return take a }", 2, signaled("a", none))
	costs(t, "flow f() { return [take a, take a] }", 4, signaled("a", none), signaled("a", none))
	costs(t, "flow f() { return take a }", 1, signaled("b", none))
	costs(t, "flow f() { do fork { do take a do 1 } do take b }", 7, signaled("a", none))
	// A step that can't be paid does nothing, whatever it would do.
	for _, c := range []struct {
		s     string
		fuel  int
		steps api.Event
	}{
		{"flow f() { do 1 / 0 }", 2, faulted(130)}, {"flow f() { do 1 / 0 }", 3, faulted(10)}, {"flow f() { return 1 }", 0, faulted(130)}, {"flow f() { return 1 }", 1, faulted(130)}, {"flow f() { return 1 }", 2, returned(in(1))},
		{"flow f() { fail 1 }", 1, faulted(130)}, {"flow f() { fail 1 }", 2, failed(in(1))}, {"flow f() { do call a() }", 0, faulted(130)}, {"flow f() { sleep 1 }", 1, faulted(130)}, {"flow f() { do await 3 }", 1, faulted(130)}, {"flow f() { do await 3 }", 2, faulted(121)},
		{"flow f() { if 1 { } }", 1, faulted(130)}, {"flow f() { if 1 { } }", 2, faulted(120)}, {"flow f() { do 1 or true }", 1, faulted(130)}, {"flow f() { do 1 or true }", 2, faulted(120)}, {"flow f() { do false or 1 }", 3, faulted(120)}, {"flow f() { do take a }", 0, faulted(130)}, {"flow f() { do fork { } }", 0, faulted(130)}, {"flow f() { }", 0, returned(none)},
	} {
		isTold(t, of(t, c.s), list(), 0, c.fuel, nil, answer{orders: orders(c.steps), cuts: []int{1}})
	}
	// The steps of all strands count together.
	costs(t, "flow f() { let h = fork { do 1 } let i = fork { do 1 do 1 } do [await h, await i] }", 2+2+2+4+6)
}

func TestMostSteps(t *testing.T) { // P13.1
	// Each turn of the loop has two steps; the name, the sum and all of a turn with them eight.
	isTold(t, of(t, "flow f() { while true { } }"), list(), 1, 1<<20, nil, answer{orders: orders(faulted(130)), cuts: []int{1}})
	x := of(t, "flow f() { let i = 0 while i < 131071 { i = i + 1 } return i }")
	steps := 2 + 131072*4 + 131071*4 + 2
	if steps != 1<<20 {
		t.Fatal(steps)
	}
	isTold(t, x, list(), 1, steps, nil, answer{orders: orders(returned(in(131071))), cuts: []int{1}})
	isTold(t, x, list(), 1, steps-1, nil, answer{orders: orders(faulted(130)), cuts: []int{1}})
}

// makers are what makes a handle, at once.
var makers = []struct {
	s     string
	order func(id int) api.Event
}{
	{"do call a()", func(id int) api.Event { return called(id, "a") }},
	{"do child a()", func(id int) api.Event { return asked(id, "a") }},
	{"do timer(4)", func(id int) api.Event { return timed(id, 4) }},
	{"sleep 4", func(id int) api.Event { return timed(id, 4) }},
	{"do fork { }", nil},
}

func TestMostHandles(t *testing.T) { // P13.1
	for _, m := range makers[:3] {
		s := "flow f(n) { let i = 0 while i < n { " + m.s + " i = i + 1 } do take s "
		var all []api.Event
		for id := range 500 {
			all = append(all, m.order(id))
		}
		for _, n := range []int64{499, 500} {
			runs(t, s+"}", []api.Value{in(n)}, feeds(signaled("s", none)), append(all[:n:n], returned(none)), int(n), int(n)+1)
			for _, last := range makers {
				want := faulted(131)
				var l []api.Event
				if n == 499 {
					want = returned(in(7))
					if last.order != nil {
						l = orders(last.order(499))
					}
				}
				feed := feeds(signaled("s", none))
				if last.s == "sleep 4" && n == 499 {
					feed = append(feed, fired(499))
				}
				x := of(t, s+last.s+" return 7 }")
				a := hold(t, x, list(in(n)), 1, 20000, feed)
				if !same(a.orders, append(append(all[:n:n], l...), want)) {
					t.Errorf("%d of %s, then %s: %s", n, m.s, last.s, short(a.orders[n:]))
				}
			}
		}
		runs(t, s+"}", []api.Value{in(501)}, nil, append(all, faulted(131)), 501)
		runs(t, s+"}", []api.Value{in(5000)}, nil, append(all, faulted(131)), 501)
	}
	// Handles that are done count too, and those of strands.
	runs(t, "flow f() { let i = 0 while i < 19 { do await fork { } i = i + 1 } while true { do timer(i) i = i + 1 } }", nil, nil, timers(19, 500, faulted(131)), 482)
	var feed []api.Event
	cuts := []int{1}
	for id := range 500 {
		feed = append(feed, fired(id))
		cuts = append(cuts, id+2)
	}
	runs(t, "flow f() { let i = 0 while true { sleep i i = i + 1 } }", nil, feed, timers(0, 500, faulted(131)), cuts...)
}

// timers are the orders of timers, each as long as its handle, and then the last one.
func timers(from, to int, last api.Event) (l []api.Event) {
	for id := from; id < to; id++ {
		l = append(l, timed(id, int64(id)))
	}
	return append(l, last)
}

func TestMostStrands(t *testing.T) { // P13.1
	forks := func(n int) string {
		return "flow f() { " + strings.Repeat("do fork { do call a() } ", n) + "do take s }"
	}
	for n := range 22 {
		var l []api.Event
		for i := range n {
			l = append(l, called(n+i, "a"))
		}
		if n < 20 {
			runs(t, forks(n), nil, feeds(signaled("s", none)), append(l, returned(none)), n, n+1)
		} else {
			comes(t, forks(n), faulted(131))
		}
	}
	// Those that have ended count too, and those of other strands.
	for n := range int64(22) {
		want := faulted(131)
		if n < 20 {
			want = returned(in(n))
		}
		s := fmt.Sprint("flow f() { let i = 0 while i < ", n, " { do await fork { } i = i + 1 } return i }")
		comes(t, s, want)
		comes(t, "flow f() { return "+strings.Repeat("await fork { return 1 + ", int(min(n, 7)))+"0"+strings.Repeat(" }", int(min(n, 7)))+" }", returned(in(min(n, 7))))
	}
	comes(t, "flow f() { do fork { "+strings.Repeat("do fork { } ", 19)+"} do take s }", faulted(131))
	comes(t, "flow f() { "+strings.Repeat("do fork { do fork { } } ", 9)+"do fork { do fork { } } do take s }", faulted(131))
	comes(t, "flow f() { "+strings.Repeat("do fork { do fork { } } ", 9)+"do fork { return 9 } return await 9 }", returned(in(9)))
	// The 20th strand has the handle 18: the fault leaves none behind, and orders go on until then.
	runs(t, "flow f() { "+strings.Repeat("do fork { } ", 19)+"do call a() do fork { } do call a() }", nil, nil, orders(called(19, "a"), faulted(131)), 2)
	// Other handles than those of strands don't count.
	runs(t, "flow f() { let i = 0 while i < 400 { do timer(i) i = i + 1 } return await fork { return 3 } }", nil, nil, timers(0, 400, returned(in(3))), 401)
}

// TestLargeValues holds values that are too large where the tree makes them.
func TestLargeValues(t *testing.T) { // P13.1
	row := make([]api.Value, 0, 1024)
	for range 1023 {
		row = append(row, no)
	}
	full := list(row...)                    // 1024 nodes: the most
	long := text(strings.Repeat("x", 4095)) // the longest text
	for _, v := range []api.Value{full, list(row[:1022]...), long, text(strings.Repeat("x", 4094))} {
		fits := len(v)+len(v[0].Text) < 4096 && len(v) < 1024
		want := func(x, y api.Event) api.Event {
			if fits {
				return x
			}
			return y
		}
		fault := faulted(122)
		runs(t, "flow f() { return take a }", nil, feeds(signaled("a", v)), orders(returned(v)), 0, 1)
		runs(t, "flow f() { fail take a }", nil, feeds(signaled("a", v)), orders(failed(v)), 0, 1)
		runs(t, "flow f() { return await call a() }", nil, feeds(done(0, v)), orders(called(0, "a"), returned(v)), 1, 2)
		runs(t, "flow f() { let v = take a let h = fork { return v } return await h }", nil, feeds(signaled("a", v)), orders(returned(v)), 0, 1)
		runs(t, "flow f() { return [take a] }", nil, feeds(signaled("a", v)), orders(want(returned(list(v)), fault)), 0, 1)
		// true and the value are a node more than the value in a list.
		runs(t, "flow f() { return settle call a() }", nil, feeds(done(0, v)), orders(called(0, "a"), fault), 1, 2)
		calls := orders(called(0, "a", v), returned(none))
		children := orders(asked(0, "a", v), returned(none))
		if !fits {
			calls, children = orders(fault), orders(fault)
		}
		runs(t, "flow f() { do call a(take a) }", nil, feeds(signaled("a", v)), calls, 0, len(calls))
		runs(t, "flow f() { do child a(take a) }", nil, feeds(signaled("a", v)), children, 0, len(children))
	}
	least := list(row[:1021]...)
	runs(t, "flow f() { return settle call a() }", nil, feeds(done(0, least)), orders(called(0, "a"), returned(list(yes, least))), 1, 2)
	comes(t, "flow f() { let a = [1] while true { a = a + a } }", faulted(122))
	comes(t, `flow f() { let a = "x" while true { a = a + a } }`, faulted(122))
	comes(t, `flow f() { let a = [] while true { a = [a, a] } }`, faulted(122))
	runs(t, "flow f(a) { return a }", []api.Value{list(row[:1022]...)}, nil, orders(returned(list(row[:1022]...))), 1)
	comes(t, "flow f() { return ["+strings.Repeat("0, ", 1023)+"0] }", faulted(122))
	comes(t, "flow f() { do call a("+strings.Repeat("0, ", 1023)+"0) }", faulted(122))
	// Of arguments that are too large and a handle too many the first is told: oper is named ahead of ErrOpen.
	runs(t, "flow f() { let i = 0 while i < 500 { do timer(i) i = i + 1 } do call a("+strings.Repeat("0, ", 1023)+"0) }", nil, nil, timers(0, 500, faulted(122)), 501)
	runs(t, "flow f() { let i = 0 while i < 500 { do timer(i) i = i + 1 } sleep none }", nil, nil, timers(0, 500, faulted(120)), 501)
}

func TestLargeFlows(t *testing.T) { // P13.1
	var members []api.Value
	for i := range 100 {
		members = append(members, in(int64(i)))
	}
	runs(t, "flow f("+params(100)+") { return ["+params(100)+"] }", members, nil, orders(returned(list(members...))), 1)
	comes(t, "flow f() { return "+strings.Repeat("- ", 35)+"1 }", returned(in(-1)))
	comes(t, "flow f() { return "+strings.Repeat("- ", 36)+"1 }", returned(in(1)))
	comes(t, "flow f() { return "+strings.Repeat("1 + ", 36)+"1 }", returned(in(37)))
	comes(t, "flow f() { "+strings.Repeat("if true { ", 18)+"return 5"+strings.Repeat(" }", 18)+" }", returned(in(5)))
	comes(t, "flow f() { "+strings.Repeat("while true { ", 18)+"return 5"+strings.Repeat(" }", 18)+" }", returned(in(5)))
	comes(t, "flow f() { return len(["+strings.Repeat("1, ", 999)+"1]) }", returned(in(1000)))
	comes(t, "flow f() { "+strings.Repeat("do 1 ", 1020)+"return 1 }", returned(in(1)))
	runs(t, "flow f() { let l = [] "+strings.Repeat("l = l + [take a] ", 50)+"return len(l) }", nil, slicesOf(50, signaled("a", none)), orders(returned(in(50))), append(make([]int, 50), 1)...)
}

// slicesOf are so many of x.
func slicesOf[T any](n int, x T) (l []T) {
	for range n {
		l = append(l, x)
	}
	return l
}

// TestManyFeeds holds many signals, taken and not.
func TestManyFeeds(t *testing.T) { // P13.1
	const n = 60000
	feed := make([]api.Event, n)
	for i := range feed {
		feed[i] = signaled("a", in(int64(i)))
	}
	for _, s := range []string{"flow f() { let i = 0 while i < 60000 { if take a != i { fail i } i = i + 1 } return i }", "flow f() { let h = fork { do take a } let i = 0 while i < 59999 { if take a != i { fail i } i = i + 1 } return await h }"} {
		l, cuts, at, e := walk.Walk(of(t, s), list(), 1, 1<<20, feed)
		if e != api.OK || at != 0 || len(cuts) != n+1 || cuts[n-1] != 0 || cuts[n] != 1 || len(l) != 1 || l[0].Kind != api.EvReturned {
			t.Errorf("%q: %s, %d, %d", s, short(l), at, e)
		}
	}
	l, cuts, at, e := walk.Walk(of(t, "flow f() { do take b }"), list(), 1, 1<<20, feed)
	if e != api.OK || at != 0 || len(cuts) != n+1 || cuts[n] != 0 || len(l) != 0 {
		t.Errorf("%s, %d, %d", short(l), at, e)
	}
	feed[n-1].Int = 1
	isTold(t, of(t, "flow f() { do take b }"), list(), 1, 10, feed, answer{at: n - 1, e: api.ErrShape})
}
