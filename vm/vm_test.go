package vm_test

import (
	"fmt"
	"math"
	"slices"
	"strings"
	"testing"

	"prompter/api"
	"prompter/instr"
	"prompter/value"
	"prompter/vm"
)

var (
	none = value.None()
	yes  = value.Bool(true)
	no   = value.Bool(false)
)

func in(x int64) api.Value { return value.Int(x) }

func text(s string) api.Value { return api.Value{{Kind: api.KText, Text: s}} }

// list is a list of values, whether it is too large or not.
func list(l ...api.Value) api.Value {
	return slices.Concat(api.Value{{Kind: api.KList, Kids: len(l)}}, slices.Concat(l...))
}

// The orders.
func called(id int, name string, args ...api.Value) api.Event {
	return api.Event{Kind: api.EvCalled, Id: id, Name: name, Value: list(args...)}
}
func asked(id int, name string, args ...api.Value) api.Event {
	return api.Event{Kind: api.EvAsked, Id: id, Name: name, Value: list(args...)}
}
func timed(id int, long int64) api.Event {
	return api.Event{Kind: api.EvTimed, Id: id, Int: long}
}
func returned(v api.Value) api.Event { return api.Event{Kind: api.EvReturned, Value: v} }
func failed(v api.Value) api.Event   { return api.Event{Kind: api.EvFailed, Value: v} }
func faulted(code int64) api.Event   { return api.Event{Kind: api.EvFaulted, Int: code} }

// The feeds.
func done(id int, v api.Value) api.Event {
	return api.Event{Kind: api.EvDone, Id: id, Value: v}
}
func broke(id int, code int64) api.Event {
	return api.Event{Kind: api.EvBroke, Id: id, Int: code}
}
func fired(id int) api.Event { return api.Event{Kind: api.EvFired, Id: id} }
func signaled(name string, v api.Value) api.Event {
	return api.Event{Kind: api.EvSignaled, Name: name, Value: v}
}

// feeds and orders are lists of events.
func feeds(l ...api.Event) []api.Event  { return l }
func orders(l ...api.Event) []api.Event { return l }

// same tells whether a and b are the same events.
func same(a, b []api.Event) bool {
	return slices.EqualFunc(a, b, func(x, y api.Event) bool {
		return x.Kind == y.Kind && x.Id == y.Id && x.Name == y.Name && x.Int == y.Int && slices.Equal(x.Value, y.Value)
	})
}

// short is what x is, in few words.
func short(x any) string {
	s := fmt.Sprintf("%v", x)
	switch x := x.(type) {
	case []any:
		var all []string
		for _, y := range x {
			all = append(all, short(y))
		}
		return strings.Join(all, ", ")
	case []api.Instr:
		if listed, e := instr.List(x); e == api.OK {
			s = strings.ReplaceAll(listed, "\n", "; ")
		}
	}
	if len(s) > 700 {
		return s[:700] + " .."
	}
	return s
}

// code is the code of these lines, whose numbers are left out.
func code(s string) []api.Instr {
	var b strings.Builder
	for i, line := range strings.Split(s, "; ") {
		fmt.Fprintf(&b, "%d %s\n", i, line)
	}
	l, at, e := instr.Unlist(b.String())
	if e != api.OK {
		panic(fmt.Sprint(s, ": ", at, e))
	}
	return l
}

// run is what a machine is made of.
type run struct {
	code    []api.Instr
	params  int
	args    api.Value
	version int64
	fuel    int
}

// of is a run of code without parameters, with fuel enough.
func of(s string) run {
	return run{code(s), 0, list(), 3, 10000}
}

// with are runs of the same code with other arguments.
func (r run) with(args ...api.Value) run {
	r.params, r.args = len(args), list(args...)
	return r
}

// fueled is a run of the same code with so much fuel.
func (r run) fueled(fuel int) run {
	r.fuel = fuel
	return r
}

func (r run) machine() (*vm.Machine, api.Errno) {
	return vm.New(r.code, r.params, r.args, r.version, r.fuel)
}

// isState fails unless the machine tells just that; what it is, is told then.
func isState(t *testing.T, what any, m *vm.Machine, e api.Errno, want state) {
	t.Helper()
	l, open := m.Orders(), m.Open()
	if e != want.e || !same(l, want.orders) || !slices.Equal(open, want.open) || m.Closed() != want.closed || m.Steps() != want.steps {
		t.Errorf("%s: %d, %s, open %v, closed %t, %d steps, not %d, %s, open %v, closed %t, %d steps",
			short(what), e, short(l), open, m.Closed(), m.Steps(), want.e, short(want.orders), want.open, want.closed, want.steps)
	}
}

// goesOn feeds a machine that was fed the first few of these the others, and holds what it tells.
func goesOn(t *testing.T, r run, m *vm.Machine, fed int, feed []api.Event, want []state) {
	t.Helper()
	for i := fed; i < len(feed); i++ {
		e := m.Feed(feed[i])
		isState(t, []any{r.code, r.args, r.fuel, "fed", feed[i], "of", feed}, m, e, want[i+1])
	}
}

// hold fails unless a machine of that run, fed so, tells what the chapter says.
func hold(t *testing.T, r run, feed ...api.Event) []state {
	t.Helper()
	want := plain(r, feed)
	m, e := r.machine()
	if (m == nil) != (want[0].e != api.OK) {
		t.Fatalf("New of %s: %v, %d", short(r.code), m, e)
	}
	isState(t, []any{"New of", r.code, r.args, r.version, r.fuel}, m, e, want[0])
	if m != nil {
		goesOn(t, r, m, 0, feed, want)
	}
	if t.Failed() { // there are many runs: one that is wrong is enough
		t.FailNow()
	}
	return want
}

// runs fails unless a run, fed so, makes just these orders, that many ahead of the feeds and behind each.
func runs(t *testing.T, r run, feed []api.Event, want []api.Event, cuts ...int) {
	t.Helper()
	l := hold(t, r, feed...)
	if len(l) != len(cuts) || !same(l[len(l)-1].orders, want) {
		t.Fatalf("%s, fed %s: %s, not %s", short(r.code), short(feed), short(l[len(l)-1]), short(want))
	}
	for i, x := range l {
		if x.e != api.OK || len(x.orders) != cuts[i] {
			t.Fatalf("%s: fed %d of %s: %s, not %d orders", short(r.code), i, short(feed), short(x), cuts[i])
		}
	}
}

// comes fails unless a run comes to that close at once, without other orders, in so many steps.
func comes(t *testing.T, r run, want api.Event, steps int) {
	t.Helper()
	runs(t, r, nil, orders(want), 1)
	if m, _ := r.machine(); m.Steps() != steps {
		t.Errorf("%s: %d steps, not %d", short(r.code), m.Steps(), steps)
	}
}

func TestExamples(t *testing.T) { // P16.1 to P16.3
	comes(t, of("load 0; int 1; add; return; end").with(in(2)), returned(in(3)), 4)
	m, e := of("int 5; timer; await; drop; end").machine()
	isState(t, "a timer", m, e, state{orders: orders(timed(0, 5)), open: []int{0}, steps: 3})
	e = m.Feed(fired(0))
	isState(t, "a timer that fired", m, e, state{orders: orders(timed(0, 5), returned(none)), closed: true, steps: 4})
	comes(t, of("true; branch 3; jump 0; end").fueled(10), faulted(130), 10)
}

func TestLiterals(t *testing.T) { // P16.1
	for s, want := range map[string]api.Value{
		"none": none, "true": yes, "false": no, "int 0": in(0), "int -5": in(-5), "int 9223372036854775807": in(math.MaxInt64), "int -9223372036854775808": in(math.MinInt64),
		`text ""`: text(""), `text "a\x00\xff"`: text("a\x00\xff"), "version": in(3), "list 0": list(), "load 0": none, "load 99": none,
	} {
		comes(t, of(s+"; return; end"), returned(want), 2)
		comes(t, of(s+"; fail"), failed(want), 2)
		comes(t, of(s+"; drop; end"), returned(none), 2)
		comes(t, of(s+"; store 7; int 1; store 7; "+s+"; load 7; list 2; return"), returned(list(want, in(1))), 8)
	}
	for _, version := range []int64{0, 1, math.MaxInt64} {
		r := of("version; return")
		r.version = version
		comes(t, r, returned(in(version)), 2)
	}
	long := text(strings.Repeat("\xff", 4095))
	comes(t, run{[]api.Instr{{Op: api.IText, Text: long[0].Text}, {Op: api.IReturn}}, 0, list(), 0, 2}, returned(long), 2)
}

func TestStack(t *testing.T) { // P16.1
	comes(t, of("int 1; int 2; int 3; list 2; list 2; return"), returned(list(in(1), list(in(2), in(3)))), 6)
	comes(t, of("int 1; int 2; int 3; list 3; return"), returned(list(in(1), in(2), in(3))), 5)
	comes(t, of("int 1; int 2; list 0; int 3; list 1; list 4; return"), returned(list(in(1), in(2), list(), list(in(3)))), 7)
	comes(t, of("int 7; int 2; sub; return"), returned(in(5)), 4)
	comes(t, of("int 1; int 7; int 2; sub; sub; return"), returned(in(-4)), 6)
	comes(t, of("int 1; int 2; drop; return"), returned(in(1)), 4)
	comes(t, of("int 4; int 5; int 6; list 3; int 1; at; return"), returned(in(5)), 7)
	comes(t, of("load 1; load 0; store 1; store 0; load 0; load 1; list 2; return").with(in(8), in(9)), returned(list(in(9), in(8))), 8)
	comes(t, of("load 0; store 5; load 5; load 4; load 0; list 3; return").with(in(8)), returned(list(in(8), none, in(8))), 7)
}

func TestOperators(t *testing.T) { // P16.1
	for s, want := range map[string]api.Value{
		"eq": no, "ne": yes, "lt": no, "le": no, "add": in(9), "sub": in(5), "mul": in(14), "div": in(3), "mod": in(1), "num": {{Kind: api.KNum, Num: 7 + 2i}},
	} {
		comes(t, of("int 7; int 2; "+s+"; return"), returned(want), 4)
	}
	for s, want := range map[string]api.Value{
		"true; not": no, "int 7; neg": in(-7), `text "abc"; len`: in(3), "int 7; re": in(7), "int 7; im": in(0), "int 7; conj": in(7), "list 0; len": in(0), `text "abc"; int 2; at`: text("c"),
		"int 1; int 2; num; conj": {{Kind: api.KNum, Num: 1 - 2i}}, "int 1; int 2; num; im": in(2),
	} {
		comes(t, of(s+"; return"), returned(want), strings.Count(s, ";")+2)
	}
}

// TestFaults holds codes that fault, each in so many steps; with less fuel they come to that fault instead.
func TestFaults(t *testing.T) { // P16.1
	for _, c := range []struct {
		s     string
		fault int64
		steps int
	}{
		{"int 1; int 0; div; drop; end", 10, 3}, {"int 1; int 0; mod; drop; end", 10, 3}, {"int 1; true; add; drop; end", 120, 3}, {"int 1; list 0; add; drop; end", 120, 3},
		{"int 1; not; drop; end", 120, 2}, {"none; neg; drop; end", 120, 2}, {"int 1; len; drop; end", 120, 2}, {"list 0; int 0; at; drop; end", 121, 3},
		{"true; timer; drop; end", 120, 2}, {"none; timer; drop; end", 120, 2}, {"none; sleep; end", 120, 2}, {"false; sleep; end", 120, 2},
		{"none; await; drop; end", 120, 2}, {"list 0; settle; drop; end", 120, 2}, {`text "0"; await; drop; end`, 120, 2}, {"true; settle; drop; end", 120, 2},
		{"int 0; await; drop; end", 121, 2}, {"int 0; settle; drop; end", 121, 2}, {"int -1; await; drop; end", 121, 2}, {"int -9223372036854775808; settle; drop; end", 121, 2}, {"int 9223372036854775807; await; drop; end", 121, 2},
		{"none; branch 0; end", 120, 2}, {"int 1; branch 2; end", 120, 2}, {"int 1; or 3; none; return", 120, 2}, {"list 0; and 3; none; return", 120, 2}, {"int 1; or 1; jump 0", 120, 2},
		// A bool costs nothing.
		{"int 1; bool; drop; end", 120, 1}, {"int 0; bool; return", 120, 1}, {"none; jump 3; end; bool; return", 120, 1},
	} {
		r := of(c.s)
		comes(t, r, faulted(c.fault), c.steps)
		comes(t, r.fueled(c.steps), faulted(c.fault), c.steps)
		for fuel := range c.steps {
			comes(t, r.fueled(fuel), faulted(130), fuel)
		}
	}
}

func TestJumps(t *testing.T) { // P16.1
	for _, c := range []struct {
		s     string
		want  api.Event
		steps int
	}{
		{"jump 2; end; int 1; return", returned(in(1)), 2}, {"jump 3; int 1; return; jump 1", returned(in(1)), 2}, {"jump 1; jump 2; jump 3; end", returned(none), 0},
		{"true; branch 4; int 1; return; int 2; return", returned(in(1)), 4}, {"false; branch 4; int 1; return; int 2; return", returned(in(2)), 4},
		{"true; or 4; int 1; bool; return", returned(yes), 3}, {"false; or 4; true; bool; return", returned(yes), 4}, {"false; or 4; false; bool; return", returned(no), 4}, {"false; or 4; int 1; bool; return", faulted(120), 3},
		{"false; and 4; int 1; bool; return", returned(no), 3}, {"true; and 4; true; bool; return", returned(yes), 4}, {"true; and 4; false; bool; return", returned(no), 4}, {"true; and 4; none; bool; return", faulted(120), 3},
		{"false; or 3; int 1; return", returned(in(1)), 4}, {"true; and 3; int 1; return", returned(in(1)), 4}, // nothing says that it must be a bool
		{"true; bool; bool; bool; return", returned(yes), 2}, {"int 9; true; bool; drop; return", returned(in(9)), 4},
		{"int 9; true; or 5; drop; jump 0; drop; return", returned(in(9)), 5}, {"int 9; true; or 4; false; drop; return", returned(in(9)), 5}, {"int 9; false; and 4; true; drop; return", returned(in(9)), 5},
		// What nobody comes to may have any stack.
		{"int 1; return; drop; jump 1; branch 0", returned(in(1)), 2}, {"end; jump 1", returned(none), 0}, {"end; bool; jump 1", returned(none), 0}, {"end; take a; load 99", returned(none), 0},
	} {
		comes(t, of(c.s), c.want, c.steps)
	}
	comes(t, of("load 0; int 4; lt; branch 9; load 0; int 1; add; store 0; jump 0; load 0; return").with(in(0)), returned(in(4)), 5*4+4*4+2)
}

func TestOrders(t *testing.T) { // P16.3
	runs(t, of("int 1; true; call 2 a; child 0 b; timer; call 0 a; list 3; return"), nil,
		orders(called(0, "a", in(1), yes), asked(1, "b"), timed(2, 1), called(3, "a"), returned(list(in(0), in(2), in(3)))), 5)
	l := hold(t, of("int 1; true; call 2 a; child 0 b; timer; call 0 a; take s; list 4; return"), fired(2), done(0, none), broke(3, 1), signaled("s", none))
	for i, want := range [][]int{{0, 1, 2, 3}, {0, 1, 3}, {1, 3}, {1}, nil} {
		if !slices.Equal(l[i].open, want) {
			t.Errorf("open: %v, not %v", l[i].open, want)
		}
	}
	runs(t, of("int 0; timer; int -1; timer; int -9223372036854775808; timer; int 9223372036854775807; timer; list 4; drop; end"), nil,
		orders(timed(0, 0), timed(1, 0), timed(2, 0), timed(3, math.MaxInt64), returned(none)), 5)
	s := of("int 5; sleep; int -5; sleep; int 6; timer; return")
	runs(t, s, nil, orders(timed(0, 5)), 1)
	runs(t, s, feeds(fired(0)), orders(timed(0, 5), timed(1, 0)), 1, 2)
	runs(t, s, feeds(fired(0), fired(1)), orders(timed(0, 5), timed(1, 0), timed(2, 6), returned(in(2))), 1, 2, 4)
	// A sleep leaves the stack as it was.
	runs(t, of("int 7; int 5; sleep; return"), feeds(fired(0)), orders(timed(0, 5), returned(in(7))), 1, 2)
}

func TestWaits(t *testing.T) { // P16.2
	pay := called(0, "pay")
	for _, c := range []struct{ feed, await, settle api.Event }{
		{done(0, in(7)), returned(in(7)), returned(list(yes, in(7)))},
		{done(0, none), returned(none), returned(list(yes, none))},
		{done(0, list(no, in(5))), returned(list(no, in(5))), returned(list(yes, list(no, in(5))))},
		{broke(0, 5), faulted(5), returned(list(no, in(5)))},
		{broke(0, 1), faulted(1), returned(list(no, in(1)))},
		{broke(0, 131), faulted(131), returned(list(no, in(131)))},
		{broke(0, math.MaxInt64), faulted(math.MaxInt64), returned(list(no, in(math.MaxInt64)))},
	} {
		runs(t, of("call 0 pay; await; return"), feeds(c.feed), orders(pay, c.await), 1, 2)
		runs(t, of("call 0 pay; settle; return"), feeds(c.feed), orders(pay, c.settle), 1, 2)
		runs(t, of("child 0 pay; await; return"), feeds(c.feed), orders(asked(0, "pay"), c.await), 1, 2)
		runs(t, of("child 0 pay; settle; return"), feeds(c.feed), orders(asked(0, "pay"), c.settle), 1, 2)
		runs(t, of("call 0 pay; take s; drop; settle; return"), feeds(c.feed, signaled("s", none)), orders(pay, c.settle), 1, 1, 2)
	}
	// A handle may be asked more than once, by other strands too.
	runs(t, of("call 0 pay; store 0; load 0; await; load 0; await; load 0; settle; list 3; return"), feeds(done(0, in(7))), orders(pay, returned(list(in(7), in(7), list(yes, in(7))))), 1, 2)
	runs(t, of("call 0 pay; store 0; fork 9; await; load 0; await; list 2; return; end; load 0; await; return"), feeds(done(0, in(7))), orders(pay, returned(list(in(7), in(7)))), 1, 2)
	// Signals of a name in the order in which they came.
	two := of("take a; take b; take a; list 3; return")
	runs(t, two, feeds(signaled("a", in(1)), signaled("a", in(2)), signaled("b", in(3))), orders(returned(list(in(1), in(3), in(2)))), 0, 0, 0, 1)
	runs(t, two, feeds(signaled("b", in(3)), signaled("a", in(1)), signaled("c", in(9)), signaled("a", in(2))), orders(returned(list(in(1), in(3), in(2)))), 0, 0, 0, 0, 1)
}

func TestStrands(t *testing.T) { // P16.1, P16.2
	runs(t, of("fork 5; int 3; sleep; await; return; take go; return"), feeds(fired(1), signaled("go", in(4))), orders(timed(1, 3), returned(in(4))), 1, 1, 2)
	// A strand begins with a copy of its maker's slots, and with an empty stack; it shares none.
	comes(t, of("int 1; store 0; fork 9; int 2; store 0; await; load 0; list 2; return; load 0; int 5; store 0; return"), returned(list(in(1), in(2))), 13)
	comes(t, of("int 9; fork 5; await; list 2; return; list 0; return"), returned(list(in(9), list())), 7)
	comes(t, of("fork 3; await; return; end"), returned(none), 3)
	comes(t, of("fork 3; settle; return; end"), returned(list(yes, none)), 3)
	comes(t, of("fork 3; await; return; int 5; fail"), failed(in(5)), 4)
	comes(t, of("fork 3; await; return; none; neg; return"), faulted(120), 4)
	comes(t, of("fork 3; drop; end; int 5; fail"), returned(none), 2) // the first one has ended the run
	comes(t, of("fork 0; await; return"), faulted(131), 39)
	// All go on by their numbers, also those that are made meanwhile; in rounds.
	order := of("fork 5; drop; call 0 a; await; return; fork 10; drop; call 0 b; drop; end; call 0 c; drop; end")
	runs(t, order, feeds(done(1, none)), orders(called(1, "a"), called(3, "b"), called(4, "c"), returned(none)), 3, 4)
	back := of("fork 7; store 0; load 0; await; drop; call 0 a; return; fork 14; await; drop; call 0 b; drop; end; end; call 0 c; drop; end")
	runs(t, back, nil, orders(called(2, "c"), called(3, "b"), called(4, "a"), returned(in(4))), 4)
	// Nobody waits for a strand: what is open are others.
	l := hold(t, of("fork 5; take s; drop; drop; end; take s; return"), signaled("s", none))
	if l[0].open != nil || l[0].closed || !l[1].closed {
		t.Errorf("a strand that waits: %v", l)
	}
	runs(t, of("fork 4; drop; take s; return; take s; return"), feeds(signaled("s", in(1))), orders(returned(in(1))), 0, 1)
}

// isRefused fails unless New answers just that error.
func isRefused(t *testing.T, r run, e api.Errno) {
	t.Helper()
	m, got := r.machine()
	if m != nil || got != e || plainWrong(r) != e {
		t.Errorf("New of %s, %d, %s, %d, %d: %v, %d, not %d", short(r.code), r.params, short(r.args), r.version, r.fuel, m, got, e)
	}
}

func TestRefused(t *testing.T) { // P16.1
	good, none := code("end"), []api.Instr(nil)
	long := slices.Repeat(code("end"), 8193)
	wrongs := []struct { // each one's error goes ahead of those behind it
		spoil func(r *run)
		e     api.Errno
	}{
		{func(r *run) { r.params = -1 }, api.ErrArg}, {func(r *run) { r.params = 101 }, api.ErrArg}, {func(r *run) { r.params = math.MinInt }, api.ErrArg},
		{func(r *run) { r.code = long }, api.ErrLong}, {func(r *run) { r.code = none }, api.ErrShape}, {func(r *run) { r.code = []api.Instr{{Op: 7}} }, api.ErrShape}, {func(r *run) { r.code = []api.Instr{{Op: api.IJump, A: 1}} }, api.ErrShape},
		{func(r *run) { r.code = code("drop; end") }, api.ErrStack}, {func(r *run) { r.code = code("jump 0") }, api.ErrStack},
		{func(r *run) { r.args = nil }, api.ErrShape}, {func(r *run) { r.args = api.Value{{Kind: 9}} }, api.ErrShape}, {func(r *run) { r.args = list(text(strings.Repeat("a", 4095))) }, api.ErrLong}, {func(r *run) { r.args = slices.Repeat(in(1), 1025) }, api.ErrLong},
		{func(r *run) { r.args = in(1) }, api.ErrShape}, {func(r *run) { r.args = text("") }, api.ErrShape},
		{func(r *run) { r.args = list(in(1), in(2), in(3)) }, api.ErrArg}, {func(r *run) { r.args = list(list(in(1), in(2))) }, api.ErrArg}, {func(r *run) { r.args = list() }, api.ErrArg},
		{func(r *run) { r.version = -1 }, api.ErrArg}, {func(r *run) { r.version = math.MinInt64 }, api.ErrArg},
		{func(r *run) { r.fuel = -1 }, api.ErrArg}, {func(r *run) { r.fuel = 1<<20 + 1 }, api.ErrArg}, {func(r *run) { r.fuel = math.MaxInt }, api.ErrArg}, {func(r *run) { r.fuel = math.MinInt }, api.ErrArg},
	}
	for i, first := range wrongs {
		for _, second := range wrongs[i:] {
			r := run{good, 2, list(in(1), in(2)), 1, 10}
			second.spoil(&r)
			first.spoil(&r)
			isRefused(t, r, first.e)
		}
	}
	for _, params := range []int{0, 1, 2, 100} {
		for _, given := range []int{0, 1, 2, 99, 100, 101} {
			r := run{good, params, list(slices.Repeat([]api.Value{in(1)}, given)...), 0, 0}
			if params == given {
				comes(t, r, returned(value.None()), 0)
			} else {
				isRefused(t, r, api.ErrArg)
			}
		}
	}
}

func TestRefusedFeeds(t *testing.T) { // P16.2
	r := of("call 0 a; child 0 b; timer; fork 9; take s; list 4; call 1 c; await; return; take t; return")
	right := feeds(done(0, in(7)), broke(1, 7), fired(2), signaled("s", in(1)))
	all := feeds(api.Event{}, fired(3), done(3, none), broke(3, 1), fired(4), done(4, none), done(2, none), broke(2, 1), fired(0), fired(1), fired(-1), done(-1, none), broke(-1, 5), fired(math.MaxInt), fired(math.MinInt), done(500, none))
	for _, x := range append(right, done(1, list(in(1))), broke(0, math.MaxInt64)) {
		all = append(all, x)
		for _, kind := range []byte{0, 1, 2, 3, 4, 5, 6, 7, 8, 9, 10, 11, 12, 13, 14, 128 + api.EvDone, 255} {
			x.Kind = kind
			all = append(all, x)
		}
	}
	for _, x := range slices.Clone(all) {
		for _, spoil := range []func(x *api.Event){
			func(x *api.Event) { x.Int = 1 }, func(x *api.Event) { x.Int = -1 }, func(x *api.Event) { x.Int = 0 }, func(x *api.Event) { x.Int = math.MinInt64 },
			func(x *api.Event) { x.Id = 1 }, func(x *api.Event) { x.Id = -1 }, func(x *api.Event) { x.Name = "" }, func(x *api.Event) { x.Name = "s" }, func(x *api.Event) { x.Name = "S" }, func(x *api.Event) { x.Name = "9s" }, func(x *api.Event) { x.Name = strings.Repeat("s", 25) },
			func(x *api.Event) { x.Value = nil }, func(x *api.Event) { x.Value = api.Value{} }, func(x *api.Event) { x.Value = none }, func(x *api.Event) { x.Value = in(5) }, func(x *api.Event) { x.Value = api.Value{{Kind: 6}} }, func(x *api.Event) { x.Value = slices.Repeat(none, 2) }, func(x *api.Event) { x.Value = text(strings.Repeat("a", 4096)) },
		} {
			y := x
			spoil(&y)
			all = append(all, y)
		}
	}
	told := map[api.Errno]int{}
	for _, x := range all {
		for _, feed := range [][]api.Event{{x}, {x, x}, append(slices.Clone(right), x), append(slices.Clone(right), done(4, none), x), {right[0], right[1], x, right[2], x, right[3], x, done(4, none), x}} {
			for _, s := range hold(t, r, feed...) {
				told[s.e]++
			}
		}
	}
	for _, e := range []api.Errno{api.OK, api.ErrShape, api.ErrFull, api.ErrNone, api.ErrThere} {
		if told[e] < 100 {
			t.Errorf("%d: too few times: %v", e, told)
		}
	}
}

// TestOrderOfErrors holds which of several errors of a feed is told.
func TestOrderOfErrors(t *testing.T) { // P16.2
	m, _ := of("call 0 a; await; return").machine()
	for _, c := range []struct {
		x api.Event
		e api.Errno
	}{
		{api.Event{Kind: api.EvDone, Id: 9}, api.ErrShape}, {done(9, none), api.ErrNone}, {fired(0), api.ErrNone}, {api.Event{Kind: api.EvFired, Int: 1}, api.ErrShape}, {done(-1, none), api.ErrNone},
		{done(0, none), api.OK}, {done(0, nil), api.ErrShape}, {done(9, none), api.ErrFull}, {done(0, none), api.ErrFull}, {signaled("a", none), api.ErrFull}, {signaled("", none), api.ErrShape}, {called(0, "a"), api.ErrShape},
	} {
		if e := m.Feed(c.x); e != c.e {
			t.Errorf("Feed(%s): %d, not %d", short(c.x), e, c.e)
		}
	}
	m, _ = of("call 0 a; drop; take s; return").machine()
	if m.Feed(broke(0, 3)) != api.OK || m.Feed(done(0, none)) != api.ErrThere || m.Feed(fired(0)) != api.ErrNone || m.Feed(broke(0, 0)) != api.ErrShape || m.Feed(broke(0, 4)) != api.ErrThere {
		t.Error("a handle that is broken")
	}
}

// isNothing fails unless m is as one that New did not make.
func isNothing(t *testing.T, m *vm.Machine) {
	t.Helper()
	for _, x := range []api.Event{{}, signaled("s", none), done(0, none)} {
		if e := m.Feed(x); e != api.ErrNone {
			t.Errorf("Feed: %d", e)
		}
	}
	if m.Twin() != nil || m.Closed() || m.Steps() != 0 || len(m.Orders()) != 0 || len(m.Open()) != 0 {
		t.Errorf("a machine that nobody made: %v", m)
	}
}

func TestNobodyMade(t *testing.T) { // P16.4
	isNothing(t, nil)
	isNothing(t, &vm.Machine{})
	r := of("call 0 a; await; return")
	m, _ := r.machine()
	want := plain(r, feeds(done(0, in(1))))
	copied := *m // shares what m has: it is none of its own
	isNothing(t, &copied)
	isState(t, "what was copied", m, api.OK, want[0])
	isState(t, "what was copied", m, m.Feed(done(0, in(1))), want[1])
	isNothing(t, &copied)
	*m = vm.Machine{}
	isNothing(t, m)
}
