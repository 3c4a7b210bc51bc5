package show_test

import (
	"math"
	"slices"
	"testing"

	"prompter/api"
	"prompter/parse"
	"prompter/show"
	"prompter/token"
	"prompter/tree"
)

// draws are numbers that a short rule strews.
type draws uint64

func (d *draws) below(n int) int {
	*d = 6364136223846793005**d + 1442695040888963407
	return int(*d>>33) % n
}

// ops are the Ops of that kind.
func ops(is func(op byte) bool) (l []byte) {
	for o := range 256 {
		if is(byte(o)) {
			l = append(l, byte(o))
		}
	}
	return l
}

var exprs, stmts = ops(tree.Expression), ops(tree.Statement)

// leaves are the expressions without parts.
var leaves = []byte{api.ONone, api.OTrue, api.OFalse, api.OInt, api.OText, api.OName, api.OTake, api.OVersion}

// twig is a twig of that Op, with something strewn in it where it must say something.
func (d *draws) twig(o byte) api.Twig {
	names := []string{"a", "b", "x_1", "lets", "fork_", "a23456789_123456789_1234"}
	switch o {
	case api.OInt:
		return api.Twig{Op: o, Int: []int64{0, 1, 10, math.MaxInt64}[d.below(4)]}
	case api.OText:
		return tw(o, []string{"", "a", "let", "(", ")", "\x00\n\"\\", "\xff# }", "- 1"}[d.below(8)])
	case api.OFlow, api.OParam, api.OLet, api.OSet, api.OName, api.OCall, api.OChild, api.OTake:
		return tw(o, names[d.below(len(names))])
	}
	return tw(o)
}

// any is a strewn tree of that Op, about so deep at most.
func (d *draws) any(o byte, deep int) api.Tree {
	var parts []api.Tree
	put := func(from []byte, times int) {
		for range times {
			o := from[d.below(len(from))]
			if deep <= 0 && from[0] == api.ONone {
				o = leaves[d.below(len(leaves))]
			}
			parts = append(parts, d.any(o, deep-1))
		}
	}
	blocks := []byte{api.OBlock}
	switch {
	case o == api.OFlow:
		put([]byte{api.OParam}, d.below(4))
		put(blocks, 1)
	case o == api.OBlock && deep > 0:
		put(stmts, d.below(4))
	case o == api.OIf:
		put(exprs, 1)
		put(blocks, 1+d.below(2))
	case o == api.OWhile:
		put(exprs, 1)
		put(blocks, 1)
	case o == api.OFork:
		put(blocks, 1)
	case o == api.OList, o == api.OCall, o == api.OChild:
		put(exprs, d.below(4))
	case o >= api.OOr && o <= api.OAt:
		put(exprs, 2)
	case tree.Statement(o), o >= api.ONot && o <= api.OConj, o == api.OTimer, o == api.OAwait, o == api.OSettle:
		put(exprs, 1)
	}
	return top(d.twig(o), parts...)
}

// without is l without the tokens at those places.
func without(l []api.Token, open, end int) []api.Token {
	return slices.Concat(l[:open], l[open+1:end], l[end+1:])
}

// pairs are the places of each pair of brackets ( ).
func pairs(l []api.Token) (all [][2]int) {
	var open []int
	for i, x := range l {
		switch {
		case x.Kind == api.TSign && x.Text == "(":
			open = append(open, i)
		case x.Kind == api.TSign && x.Text == ")":
			last := len(open) - 1
			all = append(all, [2]int{open[last], i})
			open = open[:last]
		}
	}
	return all
}

// isRead tells whether the spelling of l is read as x.
func isRead(l []api.Token, x api.Tree) bool {
	s, _ := token.Spell(l)
	got, e := reading(x[0].Op, s)
	return e == api.OK && slices.Equal(got, x)
}

// hold fails unless x is shown as the chapter says, and each pair of brackets is there for a reason.
func hold(t *testing.T, x api.Tree) {
	t.Helper()
	isShown(t, x, plain(x, 1, false))
	l, _ := show.Tokens(x)
	for _, p := range pairs(l) {
		if isRead(without(l, p[0], p[1]), x) {
			t.Errorf("%v is read as such without the brackets at %v", short(x), p)
		}
	}
	if t.Failed() { // there are many trees: one that is wrong is enough
		t.FailNow()
	}
}

// least is what is left of a source when brackets are left out for as long as it is read as x.
func least(x api.Tree, s string) string {
	l, _, _ := token.All(s)
again:
	for _, p := range pairs(l) {
		if fewer := without(l, p[0], p[1]); isRead(fewer, x) {
			l = fewer
			goto again
		}
	}
	s, _ = token.Spell(l)
	return s
}

// holdLeast fails unless x is shown as what is left when all of it stood in brackets.
func holdLeast(t *testing.T, x api.Tree) {
	t.Helper()
	hold(t, x)
	if s, want := plain(x, 1, false), least(x, plain(x, 1, true)); s != want {
		t.Errorf("%v is shown as %q, not as %q", short(x), s, want)
	}
}

// around are trees of each Op with x at each place where an expression may stand, and names at the others; statements stand in forks.
func around(x api.Tree) (all []api.Tree) {
	a := na("a")
	for _, o := range exprs {
		switch {
		case o == api.OCall, o == api.OChild:
			all = append(all, top(tw(o, "f"), x), top(tw(o, "f"), a, x), top(tw(o, "f"), x, a))
		case o == api.OList:
			all = append(all, op(o, x), op(o, a, x), op(o, x, a))
		case o == api.OFork, slices.Contains(leaves, o):
		case o >= api.OOr && o <= api.OAt:
			all = append(all, op(o, x, a), op(o, a, x))
		default:
			all = append(all, op(o, x))
		}
	}
	fork := func(stmts ...api.Tree) { all = append(all, op(api.OFork, block(stmts...))) }
	for _, o := range stmts {
		switch o {
		case api.OLet, api.OSet:
			fork(top(tw(o, "b"), x), top(tw(o, "c"), x))
		case api.OIf:
			fork(op(o, x, block()), op(o, x, block(), block()))
		case api.OWhile:
			fork(op(o, x, block()))
		default:
			fork(op(o, x), op(o, x))
		}
	}
	return all
}

// TestPlaces holds each expression at each place, and these at each place again.
func TestPlaces(t *testing.T) { // P10.1, P10.3
	a, b := na("a"), na("b")
	some := []api.Tree{
		op(api.OOr, a, b), op(api.OAnd, a, b), op(api.ONot, a), op(api.OEq, a, b), op(api.OLt, a, b), op(api.OAdd, a, b), op(api.OSub, a, b), op(api.OMul, a, b), op(api.OMod, a, b),
		op(api.ONeg, a), op(api.OAwait, a), op(api.OSettle, a), op(api.OAt, a, b), op(api.ONum, a, b), op(api.OLen, a), op(api.OFork, block()), op(api.OList), in(1), {tw(api.OTake, "go")},
	}
	n := 0
	for _, x := range some {
		holdLeast(t, x)
		for _, y := range around(x) {
			holdLeast(t, y)
			hold(t, flow(op(api.OReturn, y)))
			for _, z := range around(y) {
				hold(t, z)
				n++
			}
		}
	}
	if n < 50000 {
		t.Errorf("there were too few trees: %d", n)
	}
}

// TestPairs holds each expression of two at both places of each other, with each of both beneath.
func TestPairs(t *testing.T) { // P10.3
	a := na("a")
	for left := byte(api.OOr); left <= api.OAt; left++ {
		for right := byte(api.OOr); right <= api.OAt; right++ {
			for o := byte(api.OOr); o <= api.OAt; o++ {
				x := op(o, op(left, a, in(1)), op(right, in(2), a))
				hold(t, x)
				if left == right {
					holdLeast(t, op(api.ONeg, x))
					holdLeast(t, op(api.ONot, x))
				}
			}
		}
	}
}

// TestStrewn holds strewn flows and expressions of all kinds.
func TestStrewn(t *testing.T) { // P10.1, P10.3
	d := draws(1)
	seen := map[byte]int{}
	for n := range 6000 {
		o := byte(api.OFlow)
		if n%2 > 0 {
			o = exprs[d.below(len(exprs))]
		}
		x := d.any(o, 1+d.below(7))
		if len(x) > 300 {
			continue
		}
		for _, y := range x {
			seen[y.Op]++
		}
		hold(t, x)
		if len(x) < 12 {
			holdLeast(t, x)
		}
	}
	for o := range rules {
		if seen[o] < 100 {
			t.Errorf("there were too few twigs of the Op %d: %d", o, seen[o])
		}
	}
}

// TestShownOfRead holds the trees of sources with brackets that nobody needs, and with gaps.
func TestShownOfRead(t *testing.T) { // P10.3
	for s, want := range map[string]string{
		"(((a)))":                    "a",
		"((1) - (2)) - (3)":          "1 - 2 - 3",
		"(a)[(0)]":                   "a [ 0 ]",
		"not (not (a == (b)))":       "not not a == b",
		"(a and b)or(c)":             "a and b or c",
		"((a or b))and(c)":           "( a or b ) and c",
		"(await (settle (-(a))))":    "await settle - a",
		"(len((a)))[0]":              "len ( a ) [ 0 ]",
		"call f((a or b),(c))":       "call f ( a or b , c )",
		"[(a), (b # two\n)]":         "[ a , b ]",
		"fork{do(a)do(-a)return(b)}": "fork { do a do - a return b }",
	} {
		x, _, e := parse.Expr(s)
		if e != api.OK {
			t.Fatalf("Expr of %q: %d", s, e)
		}
		isShown(t, x, want)
	}
}

// spare is what stands in the spare room.
var spare = api.Twig{Op: 99, Kids: 77, Text: "spare"}

// roomy is x with spare room behind it, in which there is something.
func roomy(x api.Tree) api.Tree {
	long := append(slices.Clone(x), slices.Repeat(api.Tree{spare}, 20)...)
	return long[:len(x)]
}

// untouched fails unless x has what it had, and its spare room too.
func untouched(t *testing.T, x, had api.Tree) {
	t.Helper()
	if !slices.Equal(x, had) {
		t.Errorf("%v was changed: %v", short(had), short(x))
	}
	for _, y := range x[len(x) : len(x)+20] {
		if y != spare {
			t.Errorf("the spare room behind %v: %v", short(had), y)
		}
	}
}

func TestOnlyRead(t *testing.T) { // P10.2
	d := draws(2)
	for n := range 3000 {
		had := d.any([]byte{api.OFlow, api.OAdd, api.OFork, api.OBlock, api.OLet}[n%5], 5)
		if d.below(4) == 0 {
			had[d.below(len(had))].Kids++
		}
		x := roomy(had)
		l, _ := show.Tokens(x)
		show.Tree(x)
		for i := range l {
			l[i].Text = "spoilt"
		}
		untouched(t, x, had)
	}
}

func TestAnswersShareNothing(t *testing.T) { // P10.2
	for _, had := range []api.Tree{in(1), {tw(api.OTake, "go")}, op(api.OAdd, na("a"), op(api.OSub, in(1), tx("b"))), flow(op(api.OReturn, op(api.OList, in(1), in(2))))} {
		x := roomy(had)
		first, _ := show.Tokens(x)
		second, _ := show.Tokens(x)
		want := slices.Clone(second)
		all := first[:cap(first)]
		for i := range all {
			all[i] = api.Token{Kind: 98, Text: "spoilt", At: 9}
		}
		untouched(t, x, had)
		if !slices.Equal(second, want) {
			t.Errorf("Tokens(%v): %v, not %v, once what another call told was spoilt", had, second, want)
		}
		isShown(t, had, plain(had, 1, false))
		s, _ := show.Tree(x)
		for i := range x {
			x[i] = spare
		}
		if !slices.Equal(second, want) || s != plain(had, 1, false) {
			t.Errorf("Tokens(%v), Tree: %v, %q, once what was handed in was spoilt", had, second, s)
		}
	}
}
