package vm_test

import (
	"fmt"
	"slices"
	"strings"
	"testing"

	"prompter/api"
	"prompter/check"
	"prompter/compile"
	"prompter/parse"
	"prompter/show"
	"prompter/vm"
	"prompter/walk"
)

// tree is the tree of a source.
func tree(t *testing.T, s string) api.Tree {
	t.Helper()
	x, at, e := parse.Flow(s)
	if e != api.OK {
		t.Fatalf("Flow of %.300q: %d, %d", s, at, e)
	}
	return x
}

// compiled is a run of the code of a flow.
func compiled(t *testing.T, x api.Tree, args api.Value, version int64, fuel int) run {
	t.Helper()
	code, params, e := compile.Compile(x)
	if e != api.OK {
		t.Fatalf("Compile of %s: %d", short(x), e)
	}
	return run{code, params, args, version, fuel}
}

// holdFlow fails unless the machine of a flow's code orders just what the flow's tree does, feed by feed, and refuses the same; it tells the machine, and what the tree orders.
func holdFlow(t *testing.T, x api.Tree, args api.Value, version int64, fuel int, feed ...api.Event) (*vm.Machine, []api.Event, api.Errno) {
	t.Helper()
	l, cuts, at, e := walk.Walk(x, args, version, fuel, feed)
	if e != api.OK && at > 0 { // how it was ahead of the feed that is refused
		l, cuts, _, _ = walk.Walk(x, args, version, fuel, feed[:at])
	} else if e != api.OK {
		l, cuts, _, _ = walk.Walk(x, args, version, fuel, nil)
	}
	m, got := compiled(t, x, args, version, fuel).machine()
	if len(cuts) == 0 { // nothing may be so
		if m != nil || got != e {
			t.Fatalf("%s with %s, %d, %d: %d, not %d", short(x), short(args), version, fuel, got, e)
		}
		return nil, nil, e
	}
	for i, cut := range cuts {
		if i > 0 {
			got = m.Feed(feed[i-1])
		}
		if got != api.OK || !same(m.Orders(), l[:cut]) || m.Closed() != isClosed(l[:cut]) {
			t.Fatalf("%s with %s, %d, fed %d of %s: %d, %s, not %s", short(x), short(args), fuel, i, short(feed), got, short(m.Orders()), short(l[:cut]))
		}
	}
	if e != api.OK {
		if got := m.Feed(feed[at]); got != e || !same(m.Orders(), l) {
			t.Fatalf("%s, fed %s of %s: %d, not %d", short(x), short(feed[at]), short(feed), got, e)
		}
	}
	return m, l, e
}

// isClosed tells whether the last of these orders closes a run.
func isClosed(l []api.Event) bool {
	return len(l) > 0 && l[len(l)-1].Kind >= api.EvReturned && l[len(l)-1].Kind <= api.EvFaulted
}

// isCounted fails unless the steps of a machine are just the fuel that its flow needs to order these; or all that there was, if that was not enough.
func isCounted(t *testing.T, m *vm.Machine, x api.Tree, args api.Value, version int64, fuel int, feed, l []api.Event) {
	t.Helper()
	if len(l) > 0 && same(l[len(l)-1:], orders(faulted(130))) {
		if m.Steps() != fuel {
			t.Fatalf("%s did %d steps of %d", short(x), m.Steps(), fuel)
		}
		return
	}
	if got, _, _, e := walk.Walk(x, args, version, m.Steps(), feed); e != api.OK || !same(got, l) {
		t.Fatalf("%s needs more than %d steps: %s", short(x), m.Steps(), short(got))
	}
	if m.Steps() == 0 {
		return
	}
	got, _, _, e := walk.Walk(x, args, version, m.Steps()-1, feed)
	if e == api.OK && same(got, l) {
		t.Fatalf("%s needs less than %d steps: %s", short(x), m.Steps(), short(got))
	}
}

// told is how often runs of flows came to what.
type told struct {
	refused map[api.Errno]int
	closed  map[byte]int
	waits   int
}

func (c *told) add(l []api.Event, e api.Errno) {
	if c.refused == nil {
		c.refused, c.closed = map[api.Errno]int{}, map[byte]int{}
	}
	c.refused[e]++
	if isClosed(l) {
		c.closed[l[len(l)-1].Kind]++
	} else {
		c.waits++
	}
}

// isEnough fails unless runs came to all that so many times.
func (c *told) isEnough(t *testing.T, times int) {
	t.Helper()
	for _, e := range []api.Errno{api.OK, api.ErrShape, api.ErrNone, api.ErrThere, api.ErrFull} {
		if c.refused[e] < times {
			t.Errorf("%d: too few times: %+v", e, c)
		}
	}
	if c.closed[api.EvReturned] < times || c.closed[api.EvFailed] < times || c.closed[api.EvFaulted] < times || c.waits < times {
		t.Errorf("too few runs: %+v", c)
	}
}

// pieces are pieces of sources, by how many twigs they have.
type pieces map[int][]string

// pairs are told of all pairs of pieces that have so many twigs together.
func pairs(a, b pieces, twigs int, tell func(x, y string)) {
	for n := 0; n <= twigs; n++ {
		for _, x := range a[n] {
			for _, y := range b[twigs-n] {
				tell(x, y)
			}
		}
	}
}

// shortRows are all rows of statements of some forms, of at most so many twigs, with the name a.
func shortRows(twigs int) pieces {
	exprs, stmts, rows := pieces{}, pieces{}, pieces{0: {""}}
	for n := 1; n <= twigs; n++ {
		if n == 1 {
			exprs[1] = []string{"0", "true", "a", "take s"}
		}
		for _, x := range exprs[n-1] {
			exprs[n] = append(exprs[n], "await "+x, "settle "+x, "timer("+x+")", "call g("+x+")", "child g("+x+")")
			stmts[n] = append(stmts[n], "a = "+x, "return "+x, "sleep "+x, "do "+x, "fail "+x)
		}
		if n > 1 {
			for _, x := range rows[n-2] {
				exprs[n] = append(exprs[n], "fork { "+x+"}")
			}
		}
		pairs(exprs, exprs, n-1, func(x, y string) {
			exprs[n] = append(exprs[n], "("+x+" or "+y+")", "("+x+" and "+y+")", "["+x+", "+y+"]")
		})
		pairs(exprs, rows, n-2, func(x, y string) {
			stmts[n] = append(stmts[n], "if "+x+" { "+y+"}", "while "+x+" { "+y+"}", "if "+x+" { } else { "+y+"}")
		})
		pairs(stmts, rows, n, func(x, y string) { rows[n] = append(rows[n], x+" "+y) })
	}
	return rows
}

// trace holds a flow with these feeds, and all that go on with so many of the candidates more.
func (c *told) trace(t *testing.T, x api.Tree, args api.Value, feed []api.Event, more int) {
	t.Helper()
	_, l, e := holdFlow(t, x, args, 1, 12, feed...)
	c.add(l, e)
	if e != api.OK || more == 0 {
		return
	}
	for i, next := range candidates {
		if isClosed(l) && (i+len(x))%len(candidates) > 0 { // all are refused alike
			continue
		}
		c.trace(t, x, args, append(slices.Clone(feed), next), more-1)
	}
}

// TestShortFlows holds all short flows of some forms, with all feeds of a few.
func TestShortFlows(t *testing.T) { // P16.6, W1
	var c told
	rows := shortRows(5)
	for n := range 6 {
		for _, row := range rows[n] {
			x := tree(t, "flow f(a) { "+row+"}")
			for _, args := range []api.Value{list(in(0)), list(yes)} {
				c.trace(t, x, args, nil, max(0, 5-n))
			}
			for fuel := range 4 {
				holdFlow(t, x, list(no), 1, fuel)
			}
		}
	}
	c.isEnough(t, 40)
}

// sources makes strewn sources: of what is wanted where, most often, so that runs go far.
type sources struct {
	draws
	names []string // that are seen
	made  int
}

func (s *sources) pick(l ...string) string { return l[s.below(len(l))] }

func (s *sources) name() string {
	if len(s.names) == 0 {
		return "version"
	}
	return s.names[s.below(len(s.names))]
}

func (s *sources) args(deep int) string {
	var l []string
	for range s.below(3) {
		l = append(l, s.any(deep-1))
	}
	return "(" + strings.Join(l, ", ") + ")"
}

// truth is most often a bool.
func (s *sources) truth(deep int) string {
	switch s.below(9) {
	case 0, 1:
		return "true"
	case 2:
		return "not (" + s.number(deep-1) + " == " + s.number(deep-1) + ")"
	case 3:
		return "(" + s.number(deep-1) + s.pick(" < ", " <= ", " == ", " != ") + s.number(deep-1) + ")"
	case 4, 5:
		if deep > 0 {
			return "(" + s.truth(deep-1) + s.pick(" or ", " and ") + s.truth(deep-1) + ")"
		}
	case 6:
		if s.below(6) == 0 {
			return s.any(deep - 1)
		}
	}
	return "false"
}

// number is most often a number.
func (s *sources) number(deep int) string {
	if deep > 0 {
		switch s.below(9) {
		case 0, 1:
			return "(" + s.number(deep-1) + s.pick(" + ", " - ", " * ", " % ", " / ") + s.number(deep-1) + ")"
		case 2:
			return "len([" + s.any(deep-1) + "] + [" + s.any(deep-1) + "])"
		case 3:
			return "(- " + s.number(deep-1) + ")"
		case 4:
			return s.name()
		case 5:
			return s.pick("re(", "im(", "conj(") + s.pick("num("+s.number(deep-1)+", "+s.number(deep-1)+")", s.number(deep-1)) + ")"
		}
	}
	return s.pick("0", "1", "2", "3", "5", "version")
}

// handle is most often a handle.
func (s *sources) handle(deep int) string {
	switch s.below(9) {
	case 0, 1:
		return "call " + s.pick("a", "b") + s.args(deep)
	case 2:
		return "child " + s.pick("a", "b") + s.args(deep)
	case 3:
		return "timer(" + s.number(deep-1) + ")"
	case 4, 5:
		if deep > 1 {
			return "fork " + s.block(deep-2)
		}
	case 6:
		return s.pick("0", "1", "2", "3")
	}
	return s.name()
}

func (s *sources) any(deep int) string {
	if deep <= 0 {
		return s.pick("0", "1", "none", "true", `"x\x00"`, "[]", s.name(), s.name(), "take s")
	}
	switch s.below(9) {
	case 0:
		return s.number(deep)
	case 1:
		return s.truth(deep)
	case 2, 3:
		return "(await " + s.handle(deep-1) + ")"
	case 4:
		return "(settle " + s.handle(deep-1) + ")"
	case 5:
		return "[" + s.any(deep-1) + ", " + s.any(deep-1) + "]"
	case 6:
		return "take " + s.pick("s", "s", "let_go", "u")
	}
	return s.handle(deep)
}

func (s *sources) block(deep int) string {
	had := len(s.names)
	var l []string
	for range 1 + s.below(4) {
		l = append(l, s.stmt(deep))
	}
	s.names = s.names[:had]
	return "{ " + strings.Join(l, " ") + " }"
}

func (s *sources) stmt(deep int) string {
	switch s.below(16) {
	case 0, 1, 2, 3:
		v := s.pick(s.any(deep), s.handle(deep))
		s.made++
		name := fmt.Sprint("v", s.made)
		s.names = append(s.names, name)
		return "let " + name + " = " + v
	case 4, 5:
		if n := s.name(); n != "version" {
			return n + " = " + s.any(deep)
		}
	case 6:
		if deep > 0 {
			return "if " + s.truth(deep-1) + " " + s.block(deep-1)
		}
	case 7:
		if deep > 0 {
			return "if " + s.truth(deep-1) + " " + s.block(deep-1) + " else " + s.block(deep-1)
		}
	case 8, 9:
		if deep > 0 {
			return "while " + s.truth(deep-1) + " " + s.block(deep-1)
		}
	case 10:
		return "sleep " + s.number(deep-1)
	case 11:
		if s.below(3) == 0 {
			return s.pick("return ", "return ", "fail ") + s.any(deep-1)
		}
	}
	return "do " + s.pick(s.any(deep), s.handle(deep))
}

// flow is a right flow, and how many parameters it has.
func (s *sources) flow() (api.Tree, int) {
	for {
		s.names, s.made = nil, 0
		params := s.below(3)
		for i := range params {
			s.names = append(s.names, fmt.Sprint("p", i))
		}
		head := "flow f(" + strings.Join(s.names, ", ") + ") "
		x, _, e := parse.Flow(head + s.block(3+s.below(3)))
		if e != api.OK {
			continue
		}
		if _, e := check.Names(x); e == api.OK {
			return x, params
		}
	}
}

// TestStrewnFlows holds strewn flows against their trees, and against those as which they are shown.
func TestStrewnFlows(t *testing.T) { // P16.6, P16.3, W1
	s, c := &sources{draws: 61}, told{}
	for range 5000 {
		x, params := s.flow()
		var l []api.Value
		for range params + max(0, s.below(30)-28) {
			l = append(l, s.value(2))
		}
		args, version, fuel := list(l...), int64(s.below(3)), one(&s.draws, 8, 40, 150, 400)
		var feed []api.Event
		m, orders, e := holdFlow(t, x, args, version, fuel)
		if m == nil {
			c.add(nil, e)
			continue
		}
		for range s.below(16) {
			next := s.feed(orders)
			grown, longer, e := holdFlow(t, x, args, version, fuel, append(slices.Clone(feed), next)...)
			c.add(longer, e)
			if e == api.OK {
				feed, m, orders = append(feed, next), grown, longer
			}
		}
		isCounted(t, m, x, args, version, fuel, feed, orders)
		holdShown(t, x, args, version, fuel, feed, orders)
	}
	c.isEnough(t, 40)
}

// holdShown holds that the machine of what a flow is shown as orders the same.
func holdShown(t *testing.T, x api.Tree, args api.Value, version int64, fuel int, feed, want []api.Event) {
	t.Helper()
	s, e := show.Tree(x)
	if e != api.OK {
		t.Fatalf("Tree of %s: %d", short(x), e)
	}
	m, _ := compiled(t, tree(t, s), args, version, fuel).machine()
	for _, next := range feed {
		if e := m.Feed(next); e != api.OK {
			t.Fatalf("%s: Feed %s: %d", s, short(next), e)
		}
	}
	if !same(m.Orders(), want) {
		t.Fatalf("%s, fed %s: %s, not %s", s, short(feed), short(m.Orders()), short(want))
	}
}

// TestFlows holds some flows, word by word.
func TestFlows(t *testing.T) { // P16.6, W1
	for _, c := range []struct {
		s     string
		args  []api.Value
		feed  []api.Event
		want  []api.Event
		steps int
	}{
		{"flow f(a) { return a + 1 }", []api.Value{in(2)}, nil, orders(returned(in(3))), 4},
		{"flow f() { let h = call pay(1) return await h }", nil, feeds(done(0, in(7))), orders(called(0, "pay", in(1)), returned(in(7))), 6},
		{"flow f() { let h = call pay(1) return await h }", nil, feeds(broke(0, 5)), orders(called(0, "pay", in(1)), faulted(5)), 5},
		{"flow f() { let h = fork { return take go } sleep 3 return await h }", nil, feeds(fired(1), signaled("go", in(4))), orders(timed(1, 3), returned(in(4))), 9},
		{"flow f() { while true { } }", nil, nil, orders(faulted(130)), 400},
		{"flow f() { return 1 / 0 }", nil, nil, orders(faulted(10)), 3},
		{"flow f(a, b) { if a or b { fail [a, b, version] } }", []api.Value{no, yes}, nil, orders(failed(list(no, yes, in(1)))), 9},
		{"flow f(a) { let s = 0 while s < a { let t = s s = t + 1 if s == 3 { return [s, t] } else { do s } } return s }", []api.Value{in(9)}, nil, orders(returned(list(in(3), in(2)))), 2 + 3*14 + 2*2 + 4},
	} {
		x := tree(t, c.s)
		m, l, e := holdFlow(t, x, list(c.args...), 1, 400, c.feed...)
		if e != api.OK || !same(l, c.want) || m.Steps() != c.steps {
			t.Errorf("%s: %s, %d steps, %d; not %s, %d steps", c.s, short(l), m.Steps(), e, short(c.want), c.steps)
		}
		holdShown(t, x, list(c.args...), 1, 400, c.feed, c.want)
	}
}
