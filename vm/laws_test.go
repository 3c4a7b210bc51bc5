package vm_test

import (
	"fmt"
	"slices"
	"strings"
	"testing"

	"prompter/api"
	"prompter/instr"
	"prompter/vm"
)

// seen is how often runs came to what.
type seen struct {
	refused, closed map[int64]int
	waits           int
}

func (s *seen) add(l []state) {
	if s.refused == nil {
		s.refused, s.closed = map[int64]int{}, map[int64]int{}
	}
	last := l[len(l)-1]
	if last.e != api.OK {
		s.refused[int64(last.e)]++
	}
	if last.closed {
		x := last.orders[len(last.orders)-1]
		s.closed[int64(x.Kind)*1000+x.Int]++
		return
	}
	s.waits++
}

// isEnough fails unless runs came to all of this so many times.
func (s *seen) isEnough(t *testing.T, times int, refused ...api.Errno) {
	t.Helper()
	for _, e := range refused {
		if s.refused[int64(e)] < times {
			t.Errorf("%d: too few times: %+v", e, s)
		}
	}
	for _, close := range []int64{api.EvReturned * 1000, api.EvFailed * 1000, api.EvFaulted*1000 + 7, api.EvFaulted*1000 + 120, api.EvFaulted*1000 + 121, api.EvFaulted*1000 + 130} {
		if s.closed[close] < times {
			t.Errorf("%d: too few times: %+v", close, s)
		}
	}
	if s.waits < times {
		t.Errorf("too few waits: %+v", s)
	}
}

// words are instructions by their words; each # in a word stands for every target of n places.
func words(n int, s string) []api.Instr {
	var l []api.Instr
	for w := range strings.SplitSeq(s, ", ") {
		targets := 1
		if strings.Contains(w, "#") {
			targets = n
		}
		for target := range targets {
			l = append(l, code(strings.Repeat("end; ", n) + strings.Replace(w, "#", fmt.Sprint(target), 1))[n])
		}
	}
	return l
}

// allCodes hands over all codes of n of these instructions that Check takes; always in the same memory.
func allCodes(few []api.Instr, n int, do func(l []api.Instr)) {
	l := make([]api.Instr, n)
	var fill func(at int)
	fill = func(at int) {
		if at == n {
			if _, _, _, e := instr.Check(l, 0); e == api.OK {
				do(l)
			}
			return
		}
		for _, in := range few {
			l[at] = in
			fill(at + 1)
		}
	}
	fill(0)
}

// candidates are feeds of which one or another may be.
var candidates = []api.Event{done(0, in(0)), done(1, yes), broke(0, 7), fired(0), fired(1), signaled("s", yes), signaled("s", in(0)), {Kind: api.EvFired, Int: 1}}

// tree holds a run with these feeds, and all that go on with so many of the candidates more.
func (s *seen) tree(t *testing.T, r run, feed []api.Event, more int) {
	t.Helper()
	l := hold(t, r, feed...)
	s.add(l)
	last := l[len(l)-1]
	if more == 0 || last.e != api.OK {
		return
	}
	for i, c := range candidates {
		if last.closed && (i+len(r.code))%len(candidates) > 0 { // all are refused alike
			continue
		}
		s.tree(t, r, append(slices.Clone(feed), c), more-1)
	}
}

// TestAllShort holds all short codes of some instructions, with all short feeds, and with all short fuels.
func TestAllShort(t *testing.T) { // P16.1 to P16.3
	var s seen
	codes := 0
	for i, few := range []string{
		"end",
		"jump #, fork #, take s, none, return, fail, end",
		"jump #, branch #, or #, and #, fork #, bool, drop, return, fail, sleep, end, none, true, int 0, not, add, list 2, call 0 a, child 1 b, load 1, store 0, timer, await, settle, take s, version",
		"jump #, branch #, or 3, fork #, bool, return, sleep, end, false, int 0, call 0 a, load 0, store 0, await, settle, take s",
		"fork 3, branch 4, and 4, drop, return, end, true, int 0, call 0 a, load 0, store 0, await, take s",
	} {
		n := i + 1
		allCodes(words(n, few), n, func(l []api.Instr) {
			codes++
			r := run{slices.Clone(l), 0, list(), 1, 12}
			s.tree(t, r, nil, max(1, 5-n))
			s.add(hold(t, r.fueled(codes%4), candidates[codes%len(candidates)]))
		})
	}
	if codes < 10000 {
		t.Errorf("there were too few codes: %d", codes)
	}
	s.isEnough(t, 40, api.ErrShape, api.ErrNone, api.ErrFull)
}

// draws are numbers that a short rule strews.
type draws uint64

func (d *draws) below(n int) int {
	*d = 6364136223846793005**d + 1442695040888963407
	return int(*d>>33) % n
}

// one is any one of l.
func one[T any](d *draws, l ...T) T { return l[d.below(len(l))] }

// builder puts code together: of what is wanted where, most often, so that runs go far.
type builder struct {
	*draws
	code  []api.Instr
	depth int // how many things are on the stack ahead of the statement
	left  int // how many instructions may still be put, about
}

// put puts an instruction behind all others, and tells its place.
func (b *builder) put(in api.Instr) int {
	b.code = append(b.code, in)
	b.left--
	return len(b.code) - 1
}

// op puts an instruction without fields, or one whose target is told by here.
func (b *builder) op(op byte) int { return b.put(api.Instr{Op: op}) }

// here makes what comes next the target of the instruction at that place.
func (b *builder) here(hole int) { b.code[hole].A = len(b.code) }

// value puts what leaves one thing on the stack: most often a bool (b), a number (n), a handle (h), else any.
func (b *builder) value(kind byte, deep int) {
	if b.below(60) == 0 {
		kind = one(b.draws, byte('b'), 'n', 'h', 'x')
	}
	if deep <= 0 || b.left < 0 {
		b.plain(kind)
		return
	}
	switch k := b.below(8); {
	case k == 0 && kind != 'b':
		b.put(api.Instr{Op: api.ILoad, A: slotOf(kind)})
	case k == 1:
		b.plain(kind)
	case k == 2: // a statement in the middle of things
		b.value(kind, deep-1)
		b.depth++
		b.statement(deep - 1)
		b.depth--
	case kind == 'b':
		b.truth(deep)
	case kind == 'n':
		b.number(deep)
	case kind == 'h':
		b.handle(deep)
	default:
		b.any(deep)
	}
}

// slotOf is the slot in which such a thing stands, most often.
func slotOf(kind byte) int { return strings.IndexByte("xnh", kind) }

// plain puts one instruction that leaves such a thing.
func (b *builder) plain(kind byte) {
	switch kind {
	case 'b':
		b.op(one[byte](b.draws, api.ITrue, api.IFalse))
	case 'n':
		b.put(api.Instr{Op: api.IInt, Int: int64(1 + b.below(5))})
	case 'h':
		b.put(api.Instr{Op: api.IInt, Int: int64(b.below(2))})
	default:
		b.put(one(b.draws, api.Instr{Op: api.INone}, api.Instr{Op: api.IVersion}, api.Instr{Op: api.IText, Text: "ab"}, api.Instr{Op: api.IList}, api.Instr{Op: api.ITake, Text: "s"}, api.Instr{Op: api.ITake, Text: "u"}))
	}
}

func (b *builder) truth(deep int) {
	switch b.below(3) {
	case 0:
		b.value('b', deep-1)
		b.op(one[byte](b.draws, api.ONot, api.IBool))
	case 1:
		b.value('n', deep-1)
		b.value('n', deep-1)
		b.op(one[byte](b.draws, api.OEq, api.ONe, api.OLt, api.OLe))
	default:
		b.value('b', deep-1)
		hole := b.op(one[byte](b.draws, api.IOr, api.IAnd))
		b.value('b', deep-1)
		if b.below(3) > 0 {
			b.op(api.IBool)
		}
		b.here(hole)
	}
}

func (b *builder) number(deep int) {
	switch b.below(3) {
	case 0:
		b.value('x', deep-1)
		b.value('x', deep-1)
		b.put(api.Instr{Op: api.IList, A: 2})
		b.op(api.OLen)
	case 1:
		b.value('n', deep-1)
		b.op(one[byte](b.draws, api.ONeg, api.ORe, api.OIm, api.OConj))
	default:
		b.value('n', deep-1)
		b.value('n', deep-1)
		b.op(one[byte](b.draws, api.OAdd, api.OSub, api.OMul, api.OAdd, api.OSub, api.OMul, api.ODiv, api.OMod))
	}
}

func (b *builder) handle(deep int) {
	switch b.below(4) {
	case 0, 1:
		n := b.below(3)
		for range n {
			b.value('x', deep-1)
		}
		b.put(api.Instr{Op: one[byte](b.draws, api.ICall, api.IChild), A: n, Text: one(b.draws, "a", "b")})
	case 2:
		b.value('n', deep-1)
		b.op(api.ITimer)
	default:
		b.fork(deep)
	}
}

// fork puts a fork, whose strand's code stands behind it and is passed by, and perhaps is used once more.
func (b *builder) fork(deep int) {
	had := b.depth
	strand := b.op(api.IFork)
	hole := b.op(api.IJump)
	b.here(strand)
	b.depth = 0
	for range 1 + b.below(3) {
		b.statement(deep - 1)
	}
	b.op(api.IEnd)
	b.depth = had
	b.here(hole)
	if b.below(4) == 0 {
		b.op(api.IDrop)
		b.put(b.code[strand])
	}
}

func (b *builder) any(deep int) {
	switch b.below(5) {
	case 0, 1:
		b.value('h', deep-1)
		b.op(one[byte](b.draws, api.IAwait, api.IAwait, api.ISettle))
	case 2:
		b.value('x', deep-1)
		b.value('x', deep-1)
		b.put(api.Instr{Op: api.IList, A: 2})
	case 3:
		b.value('x', deep-1)
		b.value('n', deep-1)
		b.op(one[byte](b.draws, api.OEq, api.ONe, api.OEq, api.ONe, api.ONum, api.OAt))
	default:
		b.put(api.Instr{Op: api.ITake, Text: one(b.draws, "s", "u")})
	}
}

// statement puts what leaves the stack as it was.
func (b *builder) statement(deep int) {
	if deep <= 0 || b.left < 0 {
		return
	}
	switch k := b.below(10); k {
	case 0, 1, 2:
		kind := one(b.draws, byte('n'), 'h', 'h', 'x')
		b.value(kind, deep)
		b.put(api.Instr{Op: api.IStore, A: slotOf(kind)})
	case 3:
		b.value('n', deep-1)
		b.op(api.ISleep)
	case 4, 5:
		b.choice(deep)
	case 6:
		first := len(b.code)
		b.value('b', deep-1)
		hole := b.op(api.IBranch)
		b.statement(deep - 1)
		b.put(api.Instr{Op: api.IJump, A: first})
		b.here(hole)
	case 7: // what nobody comes to
		hole := b.op(api.IJump)
		b.put(one(b.draws, api.Instr{Op: api.IDrop}, api.Instr{Op: api.IJump, A: hole}, api.Instr{Op: api.INone}))
		b.here(hole)
		b.value('x', deep)
		b.op(api.IDrop)
	case 8:
		if b.depth == 0 && b.below(4) == 0 {
			hole := -1
			if b.below(3) > 0 {
				b.value('b', deep-1)
				hole = b.op(api.IBranch)
			}
			b.value('x', deep)
			b.op(one[byte](b.draws, api.IReturn, api.IReturn, api.IFail))
			if hole >= 0 {
				b.here(hole)
			}
			return
		}
		b.value('h', deep)
		b.op(api.IDrop)
	default:
		b.value(one(b.draws, byte('h'), 'x', 'x'), deep)
		b.op(api.IDrop)
	}
}

// choice puts an if, with an else perhaps.
func (b *builder) choice(deep int) {
	b.value('b', deep-1)
	hole := b.op(api.IBranch)
	b.statement(deep - 1)
	if b.below(2) == 0 {
		end := b.op(api.IJump)
		b.here(hole)
		b.statement(deep - 1)
		hole = end
	}
	b.here(hole)
}

// built is a strewn code that Check takes, and how many parameters it has.
func (d *draws) built() ([]api.Instr, int) {
	for {
		b := builder{draws: d, code: code("call 0 a; store 2; child 0 b; drop; int 2; store 1"), left: 10 + d.below(80)}
		for b.left > 0 {
			b.statement(4)
		}
		b.op(api.IEnd)
		params := d.below(4)
		if _, _, _, e := instr.Check(b.code, params); e == api.OK {
			return b.code, params
		}
	}
}

// value is a value, with lists in one another down to that depth.
func (d *draws) value(depth int) api.Value {
	if depth > 0 && d.below(3) == 0 {
		return list(d.value(depth-1), d.value(depth-1))
	}
	return one(d, none, yes, no, in(0), in(1), in(2), in(-3), text("x"), api.Value{{Kind: api.KNum, Num: 1 - 2i}})
}

// feed is a feed that may be, most often: of a handle that these orders name.
func (d *draws) feed(orders []api.Event) api.Event {
	if d.below(3) == 0 || len(orders) == 0 {
		return signaled(one(d, "s", "s", "u", "none"), d.value(2))
	}
	x := orders[d.below(len(orders))]
	if d.below(20) == 0 {
		x.Id += d.below(3) - 1
	}
	switch {
	case d.below(25) == 0:
		return x
	case (x.Kind == api.EvTimed) != (d.below(20) == 0):
		return fired(x.Id)
	case d.below(3) == 0:
		return broke(x.Id, int64(1+d.below(9)))
	}
	return done(x.Id, d.value(2))
}

// strewn is a strewn run, and feeds most of which may be.
func (d *draws) strewn() (run, []api.Event) {
	code, params := d.built()
	var args []api.Value
	for range params {
		args = append(args, d.value(2))
	}
	r := run{code, params, list(args...), int64(d.below(3)), one(d, 8, 40, 150, 400)}
	return r, d.feeds(r)
}

// feeds are feeds of a run, most of which may be.
func (d *draws) feeds(r run) (feed []api.Event) {
	m, _ := r.machine()
	for range d.below(16) {
		x := d.feed(m.Orders())
		m.Feed(x)
		feed = append(feed, x)
	}
	return feed
}

// TestStrewn holds strewn runs against the chapter.
func TestStrewn(t *testing.T) { // P16.1 to P16.3
	d, all := draws(16), &seen{}
	for range 12000 {
		r, feed := d.strewn()
		all.add(hold(t, r, feed...))
	}
	all.isEnough(t, 30, api.ErrShape, api.ErrNone, api.ErrThere, api.ErrFull)
}

// holdTwins holds a run with a twin made ahead of each feed: these are fed all later, when the first one has gone its way, and twins of them too.
func holdTwins(t *testing.T, r run, feed, other []api.Event) {
	t.Helper()
	want := plain(r, feed)
	m, _ := r.machine()
	var twins []*vm.Machine
	for i, x := range feed {
		twins = append(twins, m.Twin())
		isState(t, "a machine that was fed", m, m.Feed(x), want[i+1])
	}
	twins = append(twins, m.Twin())
	last := want[len(feed)]
	for i, twin := range twins {
		strange := slices.Concat(feed[:i], other)
		wantStrange := plain(r, strange)
		isState(t, "a twin", twin, want[i].e, want[i])
		one, two := twin.Twin(), twin.Twin()
		goesOn(t, r, one, i, strange, wantStrange)
		isState(t, "a twin whose twin was fed", twin, want[i].e, want[i])
		isState(t, "a machine whose twin was fed", m, last.e, last)
		goesOn(t, r, twin, i, feed, want)
		goesOn(t, r, two, i, feed, want)
		isState(t, "a twin's twin", one, wantStrange[len(strange)].e, wantStrange[len(strange)])
	}
	isState(t, "a machine whose twins were fed", m, last.e, last)
	if t.Failed() {
		t.FailNow()
	}
}

func TestTwins(t *testing.T) { // P16.4, P16.7
	d := draws(7)
	for range 1500 {
		r, feed := d.strewn()
		holdTwins(t, r, feed, d.feeds(r))
	}
	// A strand of each kind of waiting.
	r := of("call 0 a; store 0; fork 29; store 1; fork 33; store 2; fork 37; store 3; take s; drop; load 0; await; load 1; settle; load 2; await; load 3; await; list 4; return; end; end; end; end; end; end; end; end; end; load 0; await; return; end; load 0; settle; return; end; int 5; sleep; take s; return")
	feed := feeds(signaled("s", in(1)), signaled("s", in(2)), fired(4), done(0, in(5)))
	holdTwins(t, r, feed, feeds(broke(0, 3), signaled("s", in(9)), fired(4)))
	runs(t, r, feed, orders(called(0, "a"), timed(4, 5), returned(list(in(5), list(yes, in(5)), list(yes, in(5)), in(2)))), 2, 2, 2, 2, 3)
}

// TestFuel holds strewn runs with each fuel: orders are the beginning of those with more.
func TestFuel(t *testing.T) { // P16.1, P16.3
	d := draws(41)
	for range 300 {
		r, feed := d.strewn()
		all := hold(t, r, feed...)
		for fuel := range all[len(all)-1].steps + 2 {
			hold(t, r.fueled(fuel), feed...)
		}
	}
}
