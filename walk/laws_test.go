package walk_test

import (
	"fmt"
	"slices"
	"strings"
	"testing"

	"prompter/api"
	"prompter/check"
	"prompter/parse"
	"prompter/walk"
)

// pieces are pieces of sources, by how many twigs they have.
type pieces map[int][]string

// pairs are told of all pairs of pieces that have so many twigs together.
func pairs(a, b pieces, twigs int, tell func(x, y string)) {
	for n := 0; n <= twigs; n++ {
		for _, x := range a[n] {
			for _, y := range b[twigs-n] {
				tell(x, y)
			}
		}
	}
}

// shortRows are all rows of statements of some forms, of at most so many twigs, with the name a.
func shortRows(twigs int) pieces {
	exprs, stmts, rows := pieces{}, pieces{}, pieces{0: {""}}
	for n := 1; n <= twigs; n++ {
		if n == 1 {
			exprs[1] = []string{"0", "true", "a", "take s"}
		}
		for _, x := range exprs[n-1] {
			exprs[n] = append(exprs[n], "await "+x, "settle "+x, "timer("+x+")", "call g("+x+")", "child g("+x+")")
			stmts[n] = append(stmts[n], "a = "+x, "return "+x, "sleep "+x, "do "+x, "fail "+x)
		}
		if n > 1 {
			for _, x := range rows[n-2] {
				exprs[n] = append(exprs[n], "fork { "+x+"}")
			}
		}
		pairs(exprs, exprs, n-1, func(x, y string) {
			exprs[n] = append(exprs[n], "("+x+" or "+y+")", "("+x+" and "+y+")")
		})
		pairs(exprs, rows, n-2, func(x, y string) {
			stmts[n] = append(stmts[n], "if "+x+" { "+y+"}", "while "+x+" { "+y+"}", "if "+x+" { } else { "+y+"}")
		})
		pairs(stmts, rows, n, func(x, y string) { rows[n] = append(rows[n], x+" "+y) })
	}
	return rows
}

// candidates are feeds of which one or another may be.
var candidates = []api.Event{done(0, in(0)), done(1, yes), broke(0, 7), fired(0), fired(1), signaled("s", yes), signaled("s", in(0)), {Kind: api.EvFired, Int: 1}}

// tree holds a run with these feeds, and all that go on with so many of the candidates more.
func (s *seen) tree(t *testing.T, x api.Tree, args api.Value, fuel int, feed []api.Event, more int) {
	t.Helper()
	s.add(hold(t, x, args, 1, fuel, feed))
	if more == 0 {
		return
	}
	for _, c := range candidates {
		next := append(slices.Clone(feed), c)
		if a := hold(t, x, args, 1, fuel, next); a.e == api.OK {
			s.tree(t, x, args, fuel, next, more-1)
		} else {
			s.add(a)
		}
	}
}

// seen is how often a run came to what.
type seen struct {
	refused, closed map[int64]int
	waits           int
}

func (s *seen) add(a answer) {
	if s.refused == nil {
		s.refused, s.closed = map[int64]int{}, map[int64]int{}
	}
	if a.e != api.OK {
		s.refused[int64(a.e)]++
		return
	}
	if l := a.orders; len(l) > 0 && l[len(l)-1].Kind >= api.EvReturned {
		s.closed[int64(l[len(l)-1].Kind)*1000+l[len(l)-1].Int]++
		return
	}
	s.waits++
}

// isEnough fails unless runs came to all of this so many times.
func (s *seen) isEnough(t *testing.T, times int, refused ...api.Errno) {
	t.Helper()
	for _, e := range refused {
		if s.refused[int64(e)] < times {
			t.Errorf("%d: too few times: %+v", e, s)
		}
	}
	for _, close := range []int64{api.EvReturned * 1000, api.EvFailed * 1000, api.EvFaulted*1000 + 7, api.EvFaulted*1000 + 120, api.EvFaulted*1000 + 121, api.EvFaulted*1000 + 130} {
		if s.closed[close] < times {
			t.Errorf("%d: too few times: %+v", close, s)
		}
	}
	if s.waits < times {
		t.Errorf("too few waits: %+v", s)
	}
}

// TestAllShort holds all short flows of some forms, with all feeds of a few, and all short fuels.
func TestAllShort(t *testing.T) { // P13.1
	var s seen
	rows := shortRows(5)
	for n := range 6 {
		for _, row := range rows[n] {
			x := of(t, "flow f(a) { "+row+"}")
			for _, args := range []api.Value{list(in(0)), list(yes)} {
				s.tree(t, x, args, 12, nil, max(0, 5-n))
			}
			for fuel := range 5 {
				s.add(hold(t, x, list(no), 1, fuel, nil))
			}
		}
	}
	s.isEnough(t, 40, api.ErrShape, api.ErrNone, api.ErrThere, api.ErrFull)
}

// draws are numbers that a short rule strews.
type draws uint64

func (d *draws) below(n int) int {
	*d = 6364136223846793005**d + 1442695040888963407
	return int(*d>>33) % n
}

// strewn makes strewn flows: of what is wanted where, most often, so that they go far.
type strewn struct {
	draws
	names []string // that are seen
	made  int
}

func (s *strewn) pick(l ...string) string { return l[s.below(len(l))] }

func (s *strewn) name() string {
	if len(s.names) == 0 {
		return "version"
	}
	return s.names[s.below(len(s.names))]
}

func (s *strewn) args(deep int) string {
	var l []string
	for range s.below(3) {
		l = append(l, s.any(deep-1))
	}
	return "(" + strings.Join(l, ", ") + ")"
}

// truth is most often a bool.
func (s *strewn) truth(deep int) string {
	switch s.below(9) {
	case 0, 1:
		return "true"
	case 2:
		return "not (" + s.number(deep-1) + " == " + s.number(deep-1) + ")"
	case 3:
		return "(" + s.number(deep-1) + s.pick(" < ", " <= ", " == ", " != ") + s.number(deep-1) + ")"
	case 4, 5:
		if deep > 0 {
			return "(" + s.truth(deep-1) + s.pick(" or ", " and ") + s.truth(deep-1) + ")"
		}
	case 6:
		if s.below(6) == 0 {
			return s.any(deep - 1)
		}
	}
	return "false"
}

// number is most often a number.
func (s *strewn) number(deep int) string {
	if deep > 0 {
		switch s.below(8) {
		case 0, 1:
			return "(" + s.number(deep-1) + s.pick(" + ", " - ", " * ", " % ", " / ") + s.number(deep-1) + ")"
		case 2:
			return "len([" + s.any(deep-1) + "] + [" + s.any(deep-1) + "])"
		case 3:
			return "(- " + s.number(deep-1) + ")"
		case 4:
			return s.name()
		}
	}
	return s.pick("0", "1", "2", "3", "5", "version")
}

// handle is most often a handle.
func (s *strewn) handle(deep int) string {
	switch s.below(9) {
	case 0, 1:
		return "call " + s.pick("a", "b") + s.args(deep)
	case 2:
		return "child " + s.pick("a", "b") + s.args(deep)
	case 3:
		return "timer(" + s.number(deep-1) + ")"
	case 4, 5:
		if deep > 1 {
			return "fork " + s.block(deep-2)
		}
	case 6:
		return s.pick("0", "1", "2", "3")
	}
	return s.name()
}

func (s *strewn) any(deep int) string {
	if deep <= 0 {
		return s.pick("0", "1", "none", "true", `"x"`, "[]", s.name(), s.name(), "take s")
	}
	switch s.below(9) {
	case 0:
		return s.number(deep)
	case 1:
		return s.truth(deep)
	case 2, 3:
		return "(await " + s.handle(deep-1) + ")"
	case 4:
		return "(settle " + s.handle(deep-1) + ")"
	case 5:
		return "[" + s.any(deep-1) + ", " + s.any(deep-1) + "]"
	case 6:
		return "take " + s.pick("s", "s", "let_go", "u")
	}
	return s.handle(deep)
}

func (s *strewn) block(deep int) string {
	had := len(s.names)
	var l []string
	for range 1 + s.below(4) {
		l = append(l, s.stmt(deep))
	}
	s.names = s.names[:had]
	return "{ " + strings.Join(l, " ") + " }"
}

func (s *strewn) stmt(deep int) string {
	switch s.below(16) {
	case 0, 1, 2, 3:
		v := s.pick(s.any(deep), s.handle(deep))
		s.made++
		name := fmt.Sprint("v", s.made)
		s.names = append(s.names, name)
		return "let " + name + " = " + v
	case 4, 5:
		if n := s.name(); n != "version" {
			return n + " = " + s.any(deep)
		}
	case 6:
		if deep > 0 {
			return "if " + s.truth(deep-1) + " " + s.block(deep-1)
		}
	case 7:
		if deep > 0 {
			return "if " + s.truth(deep-1) + " " + s.block(deep-1) + " else " + s.block(deep-1)
		}
	case 8, 9:
		if deep > 0 {
			return "while " + s.truth(deep-1) + " " + s.block(deep-1)
		}
	case 10:
		return "sleep " + s.number(deep-1)
	case 11:
		if s.below(3) == 0 {
			return s.pick("return ", "return ", "fail ") + s.any(deep-1)
		}
	}
	return "do " + s.pick(s.any(deep), s.handle(deep))
}

// flow is a right flow, and how many parameters it has.
func (s *strewn) flow() (api.Tree, int) {
	for {
		s.names, s.made = nil, 0
		params := s.below(3)
		for i := range params {
			s.names = append(s.names, fmt.Sprint("p", i))
		}
		head := "flow f(" + strings.Join(s.names, ", ") + ") "
		x, _, e := parse.Flow(head + s.block(3+s.below(3)))
		if e != api.OK {
			continue
		}
		if _, e := check.Names(x); e == api.OK {
			return x, params
		}
	}
}

// value is a value, with lists in one another down to that depth.
func (d *draws) value(depth int) api.Value {
	all := []api.Value{none, yes, no, in(0), in(1), in(2), in(-3), text("x"), {{Kind: api.KNum, Num: 1 - 2i}}}
	if depth > 0 && d.below(3) == 0 {
		return list(d.value(depth-1), d.value(depth-1))
	}
	return all[d.below(len(all))]
}

// feed is a feed that may be, most often: of a handle that these orders name.
func (d *draws) feed(orders []api.Event) api.Event {
	if d.below(3) == 0 || len(orders) == 0 {
		return signaled([]string{"s", "let_go", "u", "none"}[d.below(4)], d.value(2))
	}
	x := orders[d.below(len(orders))]
	if d.below(20) == 0 {
		x.Id += d.below(3) - 1
	}
	switch {
	case d.below(25) == 0:
		return x
	case (x.Kind == api.EvTimed) != (d.below(20) == 0):
		return fired(x.Id)
	case d.below(3) == 0:
		return broke(x.Id, int64(1+d.below(9)))
	}
	return done(x.Id, d.value(2))
}

// a strewn run: a flow, what it is given, and feeds that may be.
type strewnRun struct {
	flow    api.Tree
	args    api.Value
	version int64
	fuel    int
	feed    []api.Event
	answer
}

// run is a strewn run; it holds all that is asked on the way.
func (s *strewn) run(t *testing.T, all *seen) strewnRun {
	t.Helper()
	x, params := s.flow()
	var args []api.Value
	for range params {
		args = append(args, s.value(2))
	}
	r := strewnRun{flow: x, args: list(args...), version: int64(s.below(3)), fuel: []int{8, 40, 150, 400}[s.below(4)]}
	r.answer = hold(t, r.flow, r.args, r.version, r.fuel, nil)
	for range s.below(16) {
		next := append(slices.Clone(r.feed), s.feed(r.orders))
		a := hold(t, r.flow, r.args, r.version, r.fuel, next)
		all.add(a)
		if a.e == api.OK {
			r.feed, r.answer = next, a
		}
	}
	all.add(r.answer)
	return r
}

// TestStrewn holds strewn runs against the chapter.
func TestStrewn(t *testing.T) { // P13.1
	s, all := &strewn{draws: 13}, &seen{}
	for range 12000 {
		s.run(t, all)
	}
	all.isEnough(t, 60, api.ErrShape, api.ErrNone, api.ErrThere, api.ErrFull)
}

// begins tells whether a is the beginning of b.
func begins(a, b []api.Event) bool { return len(a) <= len(b) && same(a, b[:len(a)]) }

// TestFirstFeeds holds that what a run does hangs on its feeds so far.
func TestFirstFeeds(t *testing.T) { // P13.3
	s := &strewn{draws: 31}
	for range 1500 {
		r := s.run(t, &seen{})
		for n := range len(r.feed) + 1 {
			l, cuts, _, e := walk.Walk(r.flow, r.args, r.version, r.fuel, r.feed[:n])
			if e != api.OK || !same(l, r.orders[:r.cuts[n]]) || !slices.Equal(cuts, r.cuts[:n+1]) {
				t.Fatalf("%s: %d of the feeds %s: %s, %v, not the beginning of %s, %v", short(r.flow), n, short(r.feed), short(l), cuts, short(r.orders), r.cuts)
			}
		}
	}
}

// TestLessFuel holds runs with each fuel from none on.
func TestLessFuel(t *testing.T) { // P13.3
	s := &strewn{draws: 97}
	faults := 0
	for range 1500 {
		r := s.run(t, &seen{})
		for fuel := range min(r.steps, 100) {
			// With less fuel the run may be closed ahead of some feeds.
			n := len(r.feed)
			l, _, at, e := walk.Walk(r.flow, r.args, r.version, fuel, r.feed)
			if e == api.ErrFull {
				n = at
				l, _, _, e = walk.Walk(r.flow, r.args, r.version, fuel, r.feed[:n])
			}
			last := len(l) - 1
			if e != api.OK || last < 0 || !same(l[last:], orders(faulted(130))) || !begins(l[:last], r.orders) {
				t.Fatalf("%s, the fuel %d of %d: %s, %d, not the beginning of %s", short(r.flow), fuel, r.steps, short(l), e, short(r.orders))
			}
			faults++
		}
		if r.steps < r.fuel { // what is not used makes no difference
			for _, fuel := range []int{r.steps, r.steps + 1, 1 << 20} {
				isTold(t, r.flow, r.args, r.version, fuel, r.feed, r.answer)
			}
		}
	}
	if faults < 10000 {
		t.Errorf("there were too few runs: %d", faults)
	}
}

// TestRisingHandles holds the orders of runs: their handles rise, and what closes the run is the last one.
func TestRisingHandles(t *testing.T) { // P13.3
	s := &strewn{draws: 53}
	closed := 0
	for range 1500 {
		r := s.run(t, &seen{})
		l, cuts, _, _ := walk.Walk(r.flow, r.args, r.version, r.fuel, r.feed)
		last := -1
		for i, x := range l {
			switch x.Kind {
			case api.EvCalled, api.EvAsked, api.EvTimed:
				if x.Id <= last || x.Id >= 500 {
					t.Fatalf("the handles of %s", short(l))
				}
				last = x.Id
			case api.EvReturned, api.EvFailed, api.EvFaulted:
				closed++
				if i != len(l)-1 {
					t.Fatalf("the order %d closes the run: %s", i, short(l))
				}
			default:
				t.Fatalf("no order: %s", short(x))
			}
		}
		if len(cuts) != len(r.feed)+1 || cuts[len(cuts)-1] != len(l) || !slices.IsSorted(cuts) {
			t.Fatalf("the cuts %v of %d orders", cuts, len(l))
		}
	}
	if closed < 500 {
		t.Errorf("there were too few runs that closed: %d", closed)
	}
}
