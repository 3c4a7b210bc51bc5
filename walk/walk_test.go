package walk_test

import (
	"fmt"
	"math"
	"slices"
	"testing"

	"prompter/api"
	"prompter/parse"
	"prompter/value"
	"prompter/walk"
)

var (
	none = value.None()
	yes  = value.Bool(true)
	no   = value.Bool(false)
)

func in(x int64) api.Value { return value.Int(x) }

func text(s string) api.Value { return api.Value{{Kind: api.KText, Text: s}} }

// list is a list of values, whether it is too large or not.
func list(l ...api.Value) api.Value {
	return slices.Concat(api.Value{{Kind: api.KList, Kids: len(l)}}, slices.Concat(l...))
}

// The orders.
func called(id int, name string, args ...api.Value) api.Event {
	return api.Event{Kind: api.EvCalled, Id: id, Name: name, Value: list(args...)}
}
func asked(id int, name string, args ...api.Value) api.Event {
	return api.Event{Kind: api.EvAsked, Id: id, Name: name, Value: list(args...)}
}
func timed(id int, long int64) api.Event {
	return api.Event{Kind: api.EvTimed, Id: id, Int: long}
}
func returned(v api.Value) api.Event { return api.Event{Kind: api.EvReturned, Value: v} }
func failed(v api.Value) api.Event   { return api.Event{Kind: api.EvFailed, Value: v} }
func faulted(code int64) api.Event   { return api.Event{Kind: api.EvFaulted, Int: code} }

// The feeds.
func done(id int, v api.Value) api.Event {
	return api.Event{Kind: api.EvDone, Id: id, Value: v}
}
func broke(id int, code int64) api.Event {
	return api.Event{Kind: api.EvBroke, Id: id, Int: code}
}
func fired(id int) api.Event { return api.Event{Kind: api.EvFired, Id: id} }
func signaled(name string, v api.Value) api.Event {
	return api.Event{Kind: api.EvSignaled, Name: name, Value: v}
}

// feeds and orders are lists of events.
func feeds(l ...api.Event) []api.Event  { return l }
func orders(l ...api.Event) []api.Event { return l }

// same tells whether a and b are the same events.
func same(a, b []api.Event) bool {
	return slices.EqualFunc(a, b, func(x, y api.Event) bool {
		return x.Kind == y.Kind && x.Id == y.Id && x.Name == y.Name && x.Int == y.Int && slices.Equal(x.Value, y.Value)
	})
}

// short is what x is, in few words.
func short(x any) string {
	s := fmt.Sprintf("%v", x)
	if len(s) > 500 {
		return s[:500] + " .."
	}
	return s
}

// of is the tree of a source.
func of(t *testing.T, s string) api.Tree {
	t.Helper()
	x, at, e := parse.Flow(s)
	if e != api.OK {
		t.Fatalf("Flow of %.300q: %d, %d", s, at, e)
	}
	return x
}

// isTold fails unless Walk answers just that.
func isTold(t *testing.T, x api.Tree, args api.Value, version int64, fuel int, feed []api.Event, want answer) {
	t.Helper()
	l, cuts, at, e := walk.Walk(x, args, version, fuel, feed)
	if !same(l, want.orders) || !slices.Equal(cuts, want.cuts) || at != want.at || e != want.e {
		t.Errorf("Walk(%s, %s, %d, %d, %s): %s, %s, %d, %d, not %s, %s, %d, %d",
			short(x), short(args), version, fuel, short(feed), short(l), short(cuts), at, e, short(want.orders), short(want.cuts), want.at, want.e)
	}
}

// hold fails unless Walk answers what the chapter says.
func hold(t *testing.T, x api.Tree, args api.Value, version int64, fuel int, feed []api.Event) answer {
	t.Helper()
	want := plain(x, args, version, fuel, feed)
	isTold(t, x, args, version, fuel, feed, want)
	if t.Failed() { // there are many runs: one that is wrong is enough
		t.FailNow()
	}
	return want
}

// runs fails unless a source, with fuel enough, orders just that.
func runs(t *testing.T, s string, args []api.Value, feed []api.Event, want []api.Event, cuts ...int) {
	t.Helper()
	x := of(t, s)
	isTold(t, x, list(args...), 3, 10000, feed, answer{orders: want, cuts: cuts})
	a := plain(x, list(args...), 3, 10000, feed)
	if !same(a.orders, want) || !slices.Equal(a.cuts, cuts) || a.e != api.OK {
		t.Errorf("%.300q: the plain reading orders %s, %s, %d, %d, not %s, %v", s, short(a.orders), short(a.cuts), a.at, a.e, short(want), cuts)
	}
}

// comes fails unless a source without parameters comes to that close at once, without other orders.
func comes(t *testing.T, s string, want api.Event) {
	t.Helper()
	runs(t, s, nil, nil, orders(want), 1)
}

// isRefused fails unless Walk answers an error, and nothing else.
func isRefused(t *testing.T, s string, feed []api.Event, at int, e api.Errno) {
	t.Helper()
	x := of(t, s)
	isTold(t, x, list(), 1, 10000, feed, answer{at: at, e: e})
	if a := plain(x, list(), 1, 10000, feed); a.at != at || a.e != e {
		t.Errorf("%.300q: the plain reading answers %d, %d of %s", s, a.at, a.e, short(feed))
	}
}

func TestExamples(t *testing.T) { // P13.1
	runs(t, "flow f(a) { return a + 1 }", []api.Value{in(2)}, nil, orders(returned(in(3))), 1)
	s := "flow f() { let h = call pay(1) return await h }"
	pay := called(0, "pay", in(1))
	runs(t, s, nil, nil, orders(pay), 1)
	runs(t, s, nil, feeds(done(0, in(7))), orders(pay, returned(in(7))), 1, 2)
	runs(t, s, nil, feeds(broke(0, 5)), orders(pay, faulted(5)), 1, 2)
	runs(t, "flow f() { let h = fork { return take go } sleep 3 return await h }", nil, feeds(fired(1), signaled("go", in(4))), orders(timed(1, 3), returned(in(4))), 1, 1, 2)
	comes(t, "flow f() { return 1 / 0 }", faulted(10))
	isTold(t, of(t, "flow f() { while true { } }"), list(), 1, 10, nil, answer{orders: orders(faulted(130)), cuts: []int{1}})
}

func TestValues(t *testing.T) { // P13.1
	for s, want := range map[string]api.Value{
		"none": none, "true": yes, "false": no, "0": in(0), "9223372036854775807": in(math.MaxInt64), `"a\x00\xff"`: text("a\x00\xff"), `""`: text(""), "version": in(3),
		"[]": list(), "[1, [true], none]": list(in(1), list(yes), none), "[[], []]": list(list(), list()),
		"1 + 2": in(3), "1 - 2": in(-1), "2 * 3": in(6), "7 / 2": in(3), "- 7 % 2": in(-1), "1 == 1": yes, "1 != 1": no, "1 < 2": yes, "2 < 1": no, "1 <= 1": yes, "2 <= 1": no,
		"num(1, 2)": {{Kind: api.KNum, Num: 1 + 2i}}, "[4, 5, 6] [1]": in(5), `"abc" [2]`: text("c"), "not true": no, "- 5": in(-5), `len("abc")`: in(3),
		"re(num(1, 2))": in(1), "im(num(1, 2))": in(2), "conj(num(1, 2))": {{Kind: api.KNum, Num: 1 - 2i}}, "1 - 2 - 3": in(-4), "1 - (2 - 3)": in(2),
		`"a" + "b"`: text("ab"), "[1] + [2, 3]": list(in(1), in(2), in(3)), "9223372036854775807 + 1": in(math.MaxInt64), "9223372036854775807 * 2 - 1": in(math.MaxInt64 - 1),
	} {
		comes(t, "flow f() { return "+s+" }", returned(want))
		comes(t, "flow f() { fail "+s+" }", failed(want))
		comes(t, "flow f() { let a = none a = "+s+" return a }", returned(want))
		comes(t, "flow f() { let a = 1 let b = "+s+" a = 2 return [b, a] }", returned(list(want, in(2))))
		comes(t, "flow f() { do "+s+" }", returned(none))
		comes(t, "flow f() { let h = fork { return "+s+" } return await h }", returned(want))
		runs(t, "flow f() { do call g(1, "+s+") }", nil, nil, orders(called(0, "g", in(1), want), returned(none)), 2)
	}
	runs(t, "flow f(a, b, c) { return [c, a, b] }", []api.Value{in(1), list(), text("x")}, nil, orders(returned(list(text("x"), in(1), list()))), 1)
	comes(t, "flow f() { }", returned(none))
}

func TestFaults(t *testing.T) { // P13.1
	for s, code := range map[string]int64{
		"1 / 0": 10, "1 % 0": 10, "num(1, 2) / 0": 10, "1 + true": 120, "not 1": 120, "- none": 120, "len(1)": 120, "re(true)": 120, "[1] [1]": 121, "[1] [- 1]": 121, `"" [0]`: 121, "1 [0]": 120,
		"1 < true": 120, "num(1, 2) < 3": 120, "num(9223372036854775807, 0) % 2": 120,
		"1 or true": 120, "none and true": 120, "false or 1": 120, "true and 0": 120, `false or ""`: 120,
		"timer(true)": 120, "timer(none)": 120, "await true": 120, "await none": 120, "await []": 120, "settle \"0\"": 120, "await 7": 121, "settle 7": 121, "await - 1": 121, "settle 9223372036854775807": 121,
		"await (0 - 9223372036854775807 - 1)": 121, "await num(0, 0)": 120, "timer(num(1, 0))": 120,
	} {
		comes(t, "flow f() { do "+s+" return 1 }", faulted(code))
		comes(t, "flow f() { let h = fork { do ["+s+"] return 1 } do take a return 1 }", faulted(code))
		comes(t, "flow f() { return ["+s+", 1 + true] }", faulted(code)) // the first fault counts
		comes(t, "flow f() { let a = "+s+" fail a }", faulted(code))
		comes(t, "flow f() { while "+s+" { } }", faulted(code))
		comes(t, "flow f() { if "+s+" { } else { } }", faulted(code))
		comes(t, "flow f() { sleep "+s+" }", faulted(code))
	}
	comes(t, "flow f() { do await 0 }", faulted(121))
	comes(t, "flow f() { do settle 0 }", faulted(121))
	comes(t, "flow f() { do fork { } do settle 1 }", faulted(121))
	for _, s := range []string{"1", "none", `"true"`, "[true]", "num(1, 0)", "0"} {
		comes(t, "flow f() { if "+s+" { } }", faulted(120))
		comes(t, "flow f() { if "+s+" { } else { } }", faulted(120))
		comes(t, "flow f() { while "+s+" { } }", faulted(120))
	}
	for _, s := range []string{"true", "none", `"1"`, "[1]", "num(1, 0)"} {
		comes(t, "flow f() { sleep "+s+" }", faulted(120))
	}
}

func TestOrAnd(t *testing.T) { // P13.1
	for s, want := range map[string]api.Value{
		"true or true": yes, "true or false": yes, "false or true": yes, "false or false": no, "true and true": yes, "true and false": no, "false and true": no, "false and false": no,
		"true or 1": yes, "false and 1": no, "true or 1 / 0": yes, "false and await 7": no, "false or false or true": yes, "true and true and false": no, "false and 1 or true": yes, "true or 1 and none": yes, "not (false or true)": no,
		"false or not false": yes, "[true or 1, false and 1, 5] [2]": in(5), "(false or true) == (true and true)": yes,
	} {
		comes(t, "flow f() { return "+s+" }", returned(want))
	}
	// What is not gone through orders nothing.
	runs(t, "flow f() { do true or await call a() do false and await call b() do [false or call c() == 0, true and call d() == 1] }", nil, nil, orders(called(0, "c"), called(1, "d"), returned(none)), 3)
	runs(t, "flow f() { return false or await call a() }", nil, feeds(done(0, yes)), orders(called(0, "a"), returned(yes)), 1, 2)
	runs(t, "flow f() { return true and await call a() }", nil, feeds(done(0, in(1))), orders(called(0, "a"), faulted(120)), 1, 2)
	runs(t, "flow f() { return await call a() or await call b() }", nil, feeds(done(0, no), done(1, yes)), orders(called(0, "a"), called(1, "b"), returned(yes)), 1, 2, 3)
	runs(t, "flow f() { return await call a() and await call b() }", nil, feeds(done(0, no)), orders(called(0, "a"), returned(no)), 1, 2)
}

func TestBlocks(t *testing.T) { // P13.1
	comes(t, "flow f() { if true { return 1 } return 2 }", returned(in(1)))
	comes(t, "flow f() { if false { return 1 } return 2 }", returned(in(2)))
	comes(t, "flow f() { if true { return 1 } else { return 3 } return 2 }", returned(in(1)))
	comes(t, "flow f() { if false { return 1 } else { return 3 } return 2 }", returned(in(3)))
	comes(t, "flow f() { let a = 0 if true { a = 1 } else { a = 2 } return a }", returned(in(1)))
	comes(t, "flow f() { let a = 0 if false { a = 1 } else { a = 2 } return a }", returned(in(2)))
	comes(t, "flow f() { if true { } else { return 1 } if false { return 2 } if false { } else { } return 3 }", returned(in(3)))
	comes(t, "flow f() { if true { if false { } else { if true { return 4 } } } return 5 }", returned(in(4)))
	comes(t, "flow f() { let i = 0 let s = 0 while i < 5 { s = s + i i = i + 1 } return [i, s] }", returned(list(in(5), in(10))))
	comes(t, "flow f() { while false { return 1 } return 2 }", returned(in(2)))
	comes(t, "flow f() { while true { return 1 } return 2 }", returned(in(1)))
	comes(t, "flow f() { let i = 0 let l = [] while i < 3 { let j = 0 while j < i { l = l + [[i, j]] j = j + 1 } i = i + 1 } return l }", returned(list(list(in(1), in(0)), list(in(2), in(0)), list(in(2), in(1)))))
	comes(t, "flow f() { let i = 0 while i < 3 { let a = i if a == 1 { return [a, i] } i = i + 1 } }", returned(list(in(1), in(1))))
	comes(t, "flow f() { if true { let a = 1 } let a = 2 if true { let b = a return b } }", returned(in(2)))
	comes(t, "flow f() { return 1 return 2 }", returned(in(1)))
	comes(t, "flow f() { fail 1 return 2 }", failed(in(1)))
	comes(t, "flow f() { while true { fail 1 } }", failed(in(1)))
	runs(t, "flow f(a) { a = [a, a] a = a + [a] return a }", []api.Value{in(1)}, nil, orders(returned(list(in(1), in(1), list(in(1), in(1))))), 1)
}

func TestOrders(t *testing.T) { // P13.1
	runs(t, "flow f() { return [call a(), child b(1, true), timer(5), call a(none)] }", nil, nil,
		orders(called(0, "a"), asked(1, "b", in(1), yes), timed(2, 5), called(3, "a", none), returned(list(in(0), in(1), in(2), in(3)))), 5)
	runs(t, "flow f() { do call a(call b(call c()), timer(timer(7))) }", nil, nil,
		orders(called(0, "c"), called(1, "b", in(0)), timed(2, 7), timed(3, 2), called(4, "a", in(1), in(3)), returned(none)), 6)
	runs(t, "flow f() { do child f(child f()) do call f() }", nil, nil, orders(asked(0, "f"), asked(1, "f", in(0)), called(2, "f"), returned(none)), 4)
	runs(t, "flow f() { do timer(0) do timer(- 1) do timer(0 - 9223372036854775807 - 1) do timer(9223372036854775807) }", nil, nil,
		orders(timed(0, 0), timed(1, 0), timed(2, 0), timed(3, math.MaxInt64), returned(none)), 5)
	runs(t, "flow f() { do fork { } do call a(fork { }) do fork { do call b() } return timer(1) }", nil, nil, orders(called(2, "a", in(1)), timed(4, 1), returned(in(4))), 3)
	runs(t, "flow f() { do call a(1) + true }", nil, nil, orders(called(0, "a", in(1)), faulted(120)), 2)
	runs(t, "flow f() { do call a([1, [2, \"x\"]], none) fail call b() }", nil, nil, orders(called(0, "a", list(in(1), list(in(2), text("x"))), none), called(1, "b"), failed(in(1))), 3)
	s := "flow f() { sleep 5 sleep - 5 return timer(6) }"
	runs(t, s, nil, nil, orders(timed(0, 5)), 1)
	runs(t, s, nil, feeds(fired(0)), orders(timed(0, 5), timed(1, 0)), 1, 2)
	runs(t, s, nil, feeds(fired(0), fired(1)), orders(timed(0, 5), timed(1, 0), timed(2, 6), returned(in(2))), 1, 2, 4)
}

func TestWaits(t *testing.T) { // P13.1
	pay := called(0, "pay")
	for feed, want := range map[*api.Event][2]api.Event{
		{Kind: api.EvDone, Value: in(7)}:               {returned(in(7)), returned(list(yes, in(7)))},
		{Kind: api.EvDone, Value: none}:                {returned(none), returned(list(yes, none))},
		{Kind: api.EvDone, Value: list(no, in(5))}:     {returned(list(no, in(5))), returned(list(yes, list(no, in(5))))},
		{Kind: api.EvBroke, Int: 5}:                    {faulted(5), returned(list(no, in(5)))},
		{Kind: api.EvBroke, Int: 1}:                    {faulted(1), returned(list(no, in(1)))},
		{Kind: api.EvBroke, Int: math.MaxInt64}:        {faulted(math.MaxInt64), returned(list(no, in(math.MaxInt64)))},
		{Kind: api.EvBroke, Int: int64(api.ErrOpen)}:   {faulted(131), returned(list(no, in(131)))},
		{Kind: api.EvDone, Value: in(5)}:               {returned(in(5)), returned(list(yes, in(5)))},
		{Kind: api.EvDone, Value: api.Value{{Num: 0}}}: {returned(none), returned(list(yes, none))},
	} {
		runs(t, "flow f() { return await call pay() }", nil, feeds(*feed), orders(pay, want[0]), 1, 2)
		runs(t, "flow f() { return settle call pay() }", nil, feeds(*feed), orders(pay, want[1]), 1, 2)
		runs(t, "flow f() { return await child pay() }", nil, feeds(*feed), orders(asked(0, "pay"), want[0]), 1, 2)
		runs(t, "flow f() { return settle child pay() }", nil, feeds(*feed), orders(asked(0, "pay"), want[1]), 1, 2)
		runs(t, "flow f() { let h = fork { return await call pay() } return await h }", nil, feeds(broke(1, 3)), orders(called(1, "pay"), faulted(3)), 1, 2)
	}
	runs(t, "flow f() { return await timer(2) }", nil, feeds(fired(0)), orders(timed(0, 2), returned(none)), 1, 2)
	runs(t, "flow f() { return settle timer(2) }", nil, feeds(fired(0)), orders(timed(0, 2), returned(list(yes, none))), 1, 2)
	runs(t, "flow f() { return settle fork { } }", nil, nil, orders(returned(list(yes, none))), 1)
	// A handle may be asked more than once, by many, and long after it was done.
	runs(t, "flow f() { let h = call a() let i = fork { return await h } return [await h, await h, settle h, await i] }", nil, feeds(done(0, in(9))), orders(called(0, "a"), returned(list(in(9), in(9), list(yes, in(9)), in(9)))), 1, 2)
	runs(t, "flow f() { let h = call a() sleep 1 return await h }", nil, feeds(done(0, in(9)), fired(1)), orders(called(0, "a"), timed(1, 1), returned(in(9))), 2, 2, 3)
	runs(t, "flow f() { let h = call a() sleep 1 return await h }", nil, feeds(broke(0, 8), fired(1)), orders(called(0, "a"), timed(1, 1), faulted(8)), 2, 2, 3)
	// A broken handle that nobody awaits breaks nothing.
	runs(t, "flow f() { let h = call a() sleep 1 return 1 }", nil, feeds(broke(0, 8), fired(1)), orders(called(0, "a"), timed(1, 1), returned(in(1))), 2, 2, 3)
	// A handle's number may be reckoned.
	runs(t, "flow f() { do call a() do call b() return await (0 + 1) }", nil, feeds(done(0, in(1)), done(1, in(2))), orders(called(0, "a"), called(1, "b"), returned(in(2))), 2, 2, 3)
	// Who waits for oneself waits for good.
	runs(t, "flow f() { let h = fork { return await 0 } return await h }", nil, feeds(signaled("a", none)), nil, 0, 0)
}

func TestSignals(t *testing.T) { // P13.1
	runs(t, "flow f() { return [take a, take a, take b] }", nil, feeds(signaled("a", in(1)), signaled("b", in(2)), signaled("a", in(3))), orders(returned(list(in(1), in(3), in(2)))), 0, 0, 0, 1)
	runs(t, "flow f() { return [take a, take b, take a] }", nil, feeds(signaled("b", in(1)), signaled("b", in(2)), signaled("a", in(3)), signaled("a", in(4))), orders(returned(list(in(3), in(1), in(4)))), 0, 0, 0, 0, 1)
	runs(t, "flow f() { sleep 1 return [take a, take a, take a] }", nil, feeds(signaled("a", in(1)), signaled("a", list()), signaled("a", in(1)), signaled("a", in(4)), fired(0)), orders(timed(0, 1), returned(list(in(1), list(), in(1)))), 1, 1, 1, 1, 1, 2)
	// The strand of the least number takes first, and each takes one.
	runs(t, "flow f() { let h = fork { return take a } let i = fork { return take a } let m = take a return [m, await h, await i] }", nil, feeds(signaled("a", in(1)), signaled("a", in(2)), signaled("a", in(3))), orders(returned(list(in(1), in(2), in(3)))), 0, 0, 0, 1)
	runs(t, "flow f() { let h = fork { sleep 1 return take a } let i = fork { return take a } return [await h, await i] }", nil, feeds(signaled("a", in(1)), signaled("a", in(2)), fired(2)), orders(timed(2, 1), returned(list(in(2), in(1)))), 1, 1, 1, 2)
	runs(t, "flow f() { let h = fork { return take a } sleep 1 return [take a, await h] }", nil, feeds(signaled("a", in(1)), fired(1), signaled("a", in(2))), orders(timed(1, 1), returned(list(in(2), in(1)))), 1, 1, 1, 2)
	// Words of the language are names too; nobody takes such signals, nor others that nobody asks for.
	runs(t, "flow f() { return take a }", nil, feeds(signaled("let", in(1)), signaled("take", none), signaled("a0", in(2)), signaled("a_", in(2)), signaled("a", none)), orders(returned(none)), 0, 0, 0, 0, 0, 1)
	runs(t, "flow f() { let l = [] while len(l) < 4 { l = l + [take a] } return l }", nil, feeds(signaled("a", in(1)), signaled("a", in(2)), signaled("a", in(3)), signaled("a", in(4))), orders(returned(list(in(1), in(2), in(3), in(4)))), 0, 0, 0, 0, 1)
	runs(t, "flow f() { return await take a }", nil, feeds(signaled("a", in(0))), orders(faulted(121)), 0, 1)
	runs(t, "flow f() { return take a + take a }", nil, feeds(signaled("a", in(5)), signaled("a", yes)), orders(faulted(120)), 0, 0, 1)
}

func TestStrands(t *testing.T) { // P13.1
	// Slots are a strand's own, from the fork on.
	comes(t, "flow f() { let a = 1 let h = fork { a = a + 10 return a } a = 2 return [a, await h, a] }", returned(list(in(2), in(11), in(2))))
	comes(t, "flow f() { let a = 1 let h = fork { a = a + 1 let i = fork { a = a + 1 return a } a = 7 return [a, await i, a] } return [await h, a] }", returned(list(list(in(7), in(3), in(7)), in(1))))
	comes(t, "flow f() { let a = [1] let h = fork { let b = a b = b + [2] return b } a = a + [3] return [a, await h] }", returned(list(list(in(1), in(3)), list(in(1), in(2)))))
	comes(t, "flow f() { let l = [] let i = 0 while i < 3 { l = l + [fork { return i * i }] i = i + 1 } return [await l[0], await l[1], await l[2]] }", returned(list(in(0), in(1), in(4))))
	runs(t, "flow f(a, b) { let h = fork { let c = b b = a a = c return [a, b] } return [await h, a, b] }", []api.Value{in(1), in(2)}, nil, orders(returned(list(list(in(2), in(1)), in(1), in(2)))), 1)
	// A strand's return ends the strand alone; what it fails with, or its fault, ends the run.
	comes(t, "flow f() { let h = fork { return 1 return 2 } return [await h, settle h] }", returned(list(in(1), list(yes, in(1)))))
	comes(t, "flow f() { let h = fork { if true { while true { return 1 } } return 2 } return await h }", returned(in(1)))
	comes(t, "flow f() { let h = fork { } return await h }", returned(none))
	comes(t, "flow f() { let h = fork { let a = 1 } return await h }", returned(none))
	comes(t, "flow f() { do await fork { fail 3 } return 1 }", failed(in(3)))
	comes(t, "flow f() { do settle fork { do 1 / 0 } return 1 }", faulted(10))
	// Strand 0 goes first: what it leaves behind does not begin.
	comes(t, "flow f() { do fork { fail 3 } return 1 }", returned(in(1)))
	comes(t, "flow f() { do fork { do call a() } }", returned(none))
	comes(t, "flow f() { do fork { fail 3 } fail 1 }", failed(in(1)))
	comes(t, "flow f() { do fork { fail 3 } do 1 / 0 }", faulted(10))
	comes(t, "flow f() { let h = fork { fail 3 } let i = fork { fail 4 } return await i }", failed(in(3)))
	comes(t, "flow f() { do fork { do await fork { fail 3 } fail 4 } do fork { fail 5 } do take a }", failed(in(5)))
	comes(t, "flow f() { do fork { do fork { fail 3 } do take a } do fork { fail 5 } do take a }", failed(in(5)))
}

// TestRounds holds in which order strands go on.
func TestRounds(t *testing.T) { // P13.1
	runs(t, "flow f() { do fork { do call b() } do fork { do call c() } do call a() do take s }", nil, feeds(signaled("s", none)), orders(called(2, "a"), called(3, "b"), called(4, "c"), returned(none)), 3, 4)
	runs(t, "flow f() { do fork { do fork { do call d() } do call b() do take s } do fork { do call c() } do call a() do take s }", nil, nil, orders(called(2, "a"), called(4, "b"), called(5, "c"), called(6, "d")), 4)
	// Strand 0 waits for strand 2: it goes on in the next round, behind strand 3, but ahead of strand 1.
	runs(t, "flow f() { let h = fork { return 5 } let i = fork { do await h do call b() return 6 } let j = fork { do call c() } do await i do call a() do take s }", nil, nil,
		orders(called(3, "b"), called(4, "c"), called(5, "a")), 3)
	runs(t, "flow f() { let h = fork { do await 1 do call x() do take s } let i = fork { return 1 } let j = fork { do call y() } do await h }", nil, nil, orders(called(3, "y"), called(4, "x")), 2)
	// Two strands that hand over to one another by strands that end.
	runs(t, "flow f() { do fork { do await 2 do call a() do fork { } do await 6 do call b() } do fork { do call c() } do fork { do call d() } do take s }", nil, nil,
		orders(called(3, "c"), called(4, "d"), called(5, "a"), called(7, "b")), 4)
	// One feed may let several go on.
	runs(t, "flow f() { let h = timer(1) do fork { do await h do call b() } do fork { do await h do call c() } do await h do call a() do take s }", nil, feeds(fired(0)), orders(timed(0, 1), called(3, "a"), called(4, "b"), called(5, "c")), 1, 4)
	runs(t, "flow f() { let h = timer(1) do fork { do await h do call b() return 1 } do fork { do await h do call c() } do await 1 do call a() do take s }", nil, feeds(fired(0)), orders(timed(0, 1), called(3, "b"), called(4, "c"), called(5, "a")), 1, 4)
	// Whoever closes the run is the last one.
	runs(t, "flow f() { let h = timer(1) do fork { do await h do call b() fail 2 } do fork { do await h do call c() } do take s }", nil, feeds(fired(0)), orders(timed(0, 1), called(3, "b"), failed(in(2))), 1, 3)
	runs(t, "flow f() { let h = timer(1) do fork { do await h do call b() } do await h return 2 }", nil, feeds(fired(0)), orders(timed(0, 1), returned(in(2))), 1, 2)
}

func TestRefusedFeeds(t *testing.T) { // P13.1
	s := "flow f() { let a = call pay() let b = child pay() let c = timer(1) let d = fork { do take s } let e = fork { } do take s return [settle a, settle b, settle c] }"
	wrong := func(x api.Event, change func(x *api.Event)) api.Event {
		change(&x)
		return x
	}
	rights := feeds(done(0, in(1)), broke(0, 1), done(1, in(1)), broke(1, 1), fired(2), signaled("s", in(1)), signaled("other", in(1)))
	shapeless := feeds(api.Event{}, api.Event{Kind: api.EvStarted, Name: "f", Value: list()}, api.Event{Kind: api.EvDecided}, api.Event{Kind: 255}, called(0, "pay"), asked(0, "pay"), timed(2, 1), returned(none), failed(none), faulted(1),
		done(0, nil), done(0, list()[:0]), done(0, api.Value{{Kind: 9}}), done(0, slices.Concat(none, none)), done(0, text(string(make([]byte, 4096)))), broke(0, 0), broke(0, -1), broke(0, math.MinInt64),
		signaled("", none), signaled("A", none), signaled("1", none), signaled("a b", none), signaled("a234567890123456789012345", none), signaled("s", nil), signaled("s", api.Value{{Kind: api.KBool, Int: 2}}), signaled("s", make(api.Value, 1025)))
	for _, x := range rights {
		if x.Kind != api.EvSignaled {
			shapeless = append(shapeless, wrong(x, func(x *api.Event) { x.Name = "s" }))
		} else {
			shapeless = append(shapeless, wrong(x, func(x *api.Event) { x.Id = 1 }), wrong(x, func(x *api.Event) { x.Id = -1 }))
		}
		if x.Kind == api.EvBroke || x.Kind == api.EvFired {
			shapeless = append(shapeless, wrong(x, func(x *api.Event) { x.Value = none }))
		}
		if x.Kind != api.EvBroke {
			shapeless = append(shapeless, wrong(x, func(x *api.Event) { x.Int = 1 }), wrong(x, func(x *api.Event) { x.Int = -1 }))
		}
	}
	lacking := feeds(fired(0), fired(1), done(2, none), broke(2, 1), done(3, none), broke(3, 1), fired(3), done(4, none), broke(4, 1), fired(4), done(5, none), broke(5, 1), fired(5), done(-1, none), broke(-1, 1), fired(-1), done(math.MaxInt, none), fired(math.MinInt), fired(499), fired(500))
	for _, x := range shapeless {
		isRefused(t, s, feeds(x), 0, api.ErrShape)
		isRefused(t, s, feeds(x, x), 0, api.ErrShape)
		isRefused(t, s, feeds(fired(2), x), 1, api.ErrShape)
		isRefused(t, "flow f() { }", feeds(x), 0, api.ErrShape) // ahead of ErrFull
		for _, y := range lacking {
			isRefused(t, s, feeds(y, x), 0, api.ErrNone) // each when its turn comes
		}
	}
	for _, x := range lacking {
		isRefused(t, s, feeds(x), 0, api.ErrNone)
		isRefused(t, s, feeds(done(0, in(1)), fired(2), x), 2, api.ErrNone)
		isRefused(t, "flow f() { }", feeds(x), 0, api.ErrFull) // ahead of ErrNone
	}
	for _, x := range rights {
		runs(t, s, nil, feeds(x), orders(called(0, "pay"), asked(1, "pay"), timed(2, 1)), 3, 3)
		for _, y := range rights {
			if x.Kind != api.EvSignaled && y.Kind != api.EvSignaled && x.Id == y.Id {
				isRefused(t, s, feeds(x, y), 1, api.ErrThere)
				isRefused(t, s, feeds(x, signaled("other", none), y, x), 2, api.ErrThere)
			}
		}
		isRefused(t, "flow f() { }", feeds(x), 0, api.ErrFull)
		isRefused(t, "flow f() { do call pay() do child pay() do timer(1) }", feeds(x), 0, api.ErrFull)
		isRefused(t, "flow f() { let h = timer(1) do await h fail 1 }", feeds(fired(0), x, x), 1, api.ErrFull)
		isRefused(t, "flow f() { do 1 / await call pay() }", feeds(done(0, in(0)), x), 1, api.ErrFull)
	}
	// A handle that nobody was told of as yet.
	isRefused(t, "flow f() { sleep 1 do await call pay() }", feeds(done(1, none), fired(0)), 0, api.ErrNone)
	runs(t, "flow f() { sleep 1 do await call pay() }", nil, feeds(fired(0), done(1, none)), orders(timed(0, 1), called(1, "pay"), returned(none)), 1, 2, 3)
	runs(t, "flow f() { sleep 1 }", nil, feeds(api.Event{Kind: api.EvFired, Value: api.Value{}}), orders(timed(0, 1), returned(none)), 1, 2)
}

// TestRefusedRuns holds flows, arguments, versions and fuels that may not be.
func TestRefusedRuns(t *testing.T) { // P13.1
	one, right := of(t, "flow f(a) { return a }"), list(in(1))
	wrong := []api.Tree{nil, {}, of(t, "flow f(a) { return b }"), of(t, "flow f(a) { let a = 1 }"), one[1:], one[:3], {{Op: api.OTrue}}, make(api.Tree, 3000), append(slices.Clone(one), api.Twig{Op: api.OTrue}), of(t, "flow f("+params(101)+") { }")}
	errs := []api.Errno{api.ErrShape, api.ErrShape, api.ErrName, api.ErrTwice, api.ErrShape, api.ErrShape, api.ErrShape, api.ErrLong, api.ErrShape, api.ErrLong}
	bad := feeds(api.Event{})
	refused := func(x api.Tree, args api.Value, version int64, fuel int, e api.Errno) {
		t.Helper()
		for _, feed := range [][]api.Event{nil, bad, feeds(fired(0), fired(0))} {
			isTold(t, x, args, version, fuel, feed, answer{e: e})
		}
		if a := plain(x, args, version, fuel, nil); a.e != e {
			t.Errorf("the plain reading answers %d, not %d", a.e, e)
		}
	}
	shapeless, long := []api.Value{nil, {}, {{Kind: 6}}, slices.Concat(none, none), {{Kind: api.KList, Kids: 1}}}, []api.Value{make(api.Value, 1025), list(text(string(make([]byte, 4095))))}
	others := []api.Value{none, yes, in(1), text("a"), {{Kind: api.KNum, Num: 1}}}
	for i, x := range wrong {
		for _, args := range slices.Concat([]api.Value{right}, shapeless, long, others) {
			refused(x, args, 1, 10, errs[i])
			refused(x, args, -1, -1, errs[i])
		}
	}
	for _, args := range slices.Concat(shapeless, others) {
		refused(one, args, 1, 10, api.ErrShape)
		refused(one, args, -1, 1<<20+1, api.ErrShape)
	}
	for _, args := range long {
		refused(one, args, 1, 10, api.ErrLong)
		refused(one, args, -1, -1, api.ErrLong)
	}
	for _, args := range []api.Value{list(), list(in(1), in(2)), list(list(in(1)), in(2), in(3))} {
		refused(one, args, 1, 10, api.ErrArg)
	}
	refused(of(t, "flow f() { }"), right, 1, 10, api.ErrArg)
	refused(of(t, "flow f(a, b) { }"), right, 1, 10, api.ErrArg)
	for _, version := range []int64{-1, -2, math.MinInt64} {
		refused(one, right, version, 10, api.ErrArg)
	}
	for _, fuel := range []int{-1, math.MinInt, 1<<20 + 1, math.MaxInt} {
		refused(one, right, 1, fuel, api.ErrArg)
	}
	for _, version := range []int64{0, 1, 2, math.MaxInt64} {
		for _, fuel := range []int{3, 1<<20 - 1, 1 << 20} {
			isTold(t, of(t, "flow f() { return version }"), list(), version, fuel, nil, answer{orders: orders(returned(in(version))), cuts: []int{1}})
			isTold(t, one, right, version, fuel, nil, answer{orders: orders(returned(in(1))), cuts: []int{1}})
			isTold(t, one, list(list(in(1), in(2))), version, fuel, nil, answer{orders: orders(returned(list(in(1), in(2)))), cuts: []int{1}})
		}
	}
}
