package show_test

import (
	"math"
	"slices"
	"strings"
	"testing"

	"prompter/api"
	"prompter/show"
	"prompter/token"
	"prompter/tree"
)

// isRefused fails unless Tree and Tokens tell that error of x, and nothing else.
func isRefused(t *testing.T, x api.Tree, want api.Errno) {
	t.Helper()
	if l, e := show.Tokens(x); len(l) > 0 || e != want {
		t.Errorf("Tokens(%s): %d tokens, %d, not %d", short(x), len(l), e, want)
	}
	if s, e := show.Tree(x); s != "" || e != want {
		t.Errorf("Tree(%s): %.200q, %d, not %d", short(x), s, e, want)
	}
}

// isTooLong fails unless x has tokens, whose spelling is too long.
func isTooLong(t *testing.T, x api.Tree) {
	t.Helper()
	if s, e := show.Tree(x); s != "" || e != api.ErrLong {
		t.Errorf("Tree(%s): %d bytes, %d", short(x), len(s), e)
	}
	l, e := show.Tokens(x)
	if e != api.OK || len(l) < len(x) {
		t.Errorf("Tokens(%s): %d tokens, %d", short(x), len(l), e)
	}
	if s, e := token.Spell(l); s != "" || e != api.ErrLong {
		t.Errorf("Spell of the tokens of %s: %d bytes, %d", short(x), len(s), e)
	}
}

// under is x beneath so many twigs of that Op, which have one part.
func under(o byte, times int, x api.Tree) api.Tree {
	for range times {
		x = op(o, x)
	}
	return x
}

// times is so many parts, each of them x.
func times(n int, x api.Tree) []api.Tree {
	return slices.Repeat([]api.Tree{x}, n)
}

func TestNeitherFlowNorExpression(t *testing.T) { // P10.1
	a := na("a")
	for _, x := range []api.Tree{
		block(), block(op(api.OReturn, a)), {tw(api.OParam, "a")}, top(tw(api.OLet, "a"), a), top(tw(api.OSet, "a"), a), op(api.OIf, a, block()), op(api.OIf, a, block(), block()), op(api.OWhile, a, block()),
		op(api.OReturn, a), op(api.OFail, a), op(api.OSleep, a), op(api.ODrop, a), op(api.ODrop, op(api.OFork, block())),
	} {
		if at, e := tree.Check(x); at != 0 || e != api.OK {
			t.Fatalf("%v is no right tree: %d, %d", x, at, e)
		}
		isRefused(t, x, api.ErrShape)
		// Of these, too, the tree's own error goes ahead.
		isRefused(t, append(slices.Clone(x), a...), api.ErrShape)
	}
	isRefused(t, under(api.OReturn, 1, under(api.ONot, 38, a)), api.ErrShape)
	isRefused(t, under(api.OReturn, 1, under(api.ONot, 39, a)), api.ErrLong)
	isRefused(t, block(under(api.ODrop, 1, under(api.ONot, 38, a))), api.ErrLong)
	isRefused(t, block(times(1023, op(api.ODrop, a))...), api.ErrShape)
	isRefused(t, block(times(1024, op(api.ODrop, a))...), api.ErrLong)
}

func TestWrongTrees(t *testing.T) { // P10.1
	a := na("a")
	isRefused(t, nil, api.ErrShape)
	isRefused(t, api.Tree{}, api.ErrShape)
	for o := range 256 {
		if x := (api.Tree{tw(byte(o))}); rules[byte(o)].words == "" || rules[byte(o)].words == "$" {
			isRefused(t, x, api.ErrShape)
			isRefused(t, op(api.ONot, x), api.ErrShape)
			isRefused(t, flow(op(api.OReturn, x)), api.ErrShape)
		}
	}
	for _, x := range []api.Tree{
		in(-1), in(math.MinInt64), {{Op: api.OInt, Text: "1"}}, {{Op: api.OName, Text: "a", Int: 1}}, {{Op: api.OTrue, Int: 1}}, {{Op: api.OTrue, Kids: -1}}, {{Op: api.OList, Kids: math.MaxInt}}, {{Op: api.OList, Kids: math.MinInt}},
		na(""), na("let"), na("A"), na("1"), na("a b"), na("a23456789_123456789_12345"), tx(strings.Repeat("a", 4096)), {tw(api.OTake, "if")}, top(tw(api.OCall, "len"), a), top(tw(api.OChild), a), top(tw(api.OAdd, "+"), a, a),
		op(api.OAdd), op(api.OAdd, a), op(api.OAdd, a, a, a), op(api.ONot), op(api.ONot, a, a), op(api.OTrue, a), op(api.OFork), op(api.OFork, a), op(api.OFork, block(), block()), op(api.OFork, block(a)), op(api.OList, block()), op(api.OTimer, op(api.OReturn, a)), op(api.OAwait, flow()),
		{tw(api.OList), tw(api.OTrue)}, append(slices.Clone(a), a...), {{Op: api.OAdd, Kids: 2}, tw(api.OTrue)},
	} {
		isRefused(t, x, api.ErrShape)
		isRefused(t, op(api.OOr, a, x), api.ErrShape)
		isRefused(t, flow(op(api.ODrop, x)), api.ErrShape)
		// What could not be spelt either is told by its shape.
		isRefused(t, op(api.OList, tx(strings.Repeat("\x00", 4095)), tx("\x00"), x), api.ErrShape)
	}
	for _, x := range []api.Tree{
		op(api.OFlow, block()), top(tw(api.OFlow, "flow"), block()), top(tw(api.OFlow, "f")), top(tw(api.OFlow, "f"), block(), block()), top(tw(api.OFlow, "f"), a, block()), top(tw(api.OFlow, "f"), op(api.OParam), block()), top(tw(api.OFlow, "f"), api.Tree{tw(api.OParam, "p")}), flow(a), flow(block()), flow(op(api.OIf, a)), flow(op(api.OIf, a, block(), block(), block())), flow(op(api.OIf, block(), block())), flow(top(tw(api.OLet, "not"), a)), flow(top(tw(api.OSet), a)), flow(flow()),
		append(flow(), flow()...),
	} {
		isRefused(t, x, api.ErrShape)
	}
}

func TestDepth(t *testing.T) { // P10.1, P10.3
	a := na("a")
	isShown(t, under(api.ONot, 39, a), strings.Repeat("not ", 39)+"a")
	isRefused(t, under(api.ONot, 40, a), api.ErrLong)
	isShown(t, under(api.OTimer, 39, a), strings.Repeat("timer ( ", 39)+"a"+strings.Repeat(" )", 39))
	// Brackets ( ) make no tree deeper, however many there are.
	right, at := a, a
	for range 39 {
		right = op(api.OSub, a, right)
	}
	isShown(t, right, strings.Repeat("a - ( ", 38)+"a - a"+strings.Repeat(" )", 38))
	for range 19 {
		at = op(api.OAt, op(api.ONeg, at), in(0))
	}
	isShown(t, at, strings.Repeat("( - ", 19)+"a"+strings.Repeat(" ) [ 0 ]", 19))
	deep := flow(op(api.OReturn, under(api.OSettle, 36, a)))
	isShown(t, deep, "flow f ( ) { return "+strings.Repeat("settle ", 36)+"a }")
	isRefused(t, flow(op(api.OReturn, under(api.OSettle, 37, a))), api.ErrLong)
	isRefused(t, append(under(api.ONot, 40, a), a...), api.ErrShape)
}

func TestManyTwigs(t *testing.T) { // P10.1, P10.3
	isShown(t, op(api.OList, times(2047, in(1))...), "[ "+strings.Repeat("1 , ", 2046)+"1 ]")
	isRefused(t, op(api.OList, times(2048, in(1))...), api.ErrLong)
	isRefused(t, make(api.Tree, 2048), api.ErrShape)
	isRefused(t, make(api.Tree, 2049), api.ErrLong)
	isRefused(t, make(api.Tree, 1<<20), api.ErrLong)
	params := times(2046, api.Tree{tw(api.OParam, "p")})
	isShown(t, top(tw(api.OFlow, "f"), append(params, block())...), "flow f ( "+strings.Repeat("p , ", 2045)+"p ) { }")
	isShown(t, flow(times(1023, op(api.ODrop, na("a")))...), "flow f ( ) { "+strings.Repeat("do a ", 1023)+"}")
	long := "a23456789_123456789_1234"
	isShown(t, op(api.OList, times(606, na(long))...), "[ "+strings.Repeat(long+" , ", 605)+long+" ]")
	isTooLong(t, op(api.OList, times(607, na(long))...))
	isTooLong(t, op(api.OList, times(2047, in(math.MaxInt64))...))
	isTooLong(t, flow(times(1023, top(tw(api.OSet, long), na(long)))...))
}

// TestSpelling holds trees whose spelling has about as many bytes as a source may have.
func TestSpelling(t *testing.T) { // P10.1, P10.3
	zeros := strings.Repeat("\x00", 4095) // 16382 bytes, spelt
	spelt := `"` + strings.Repeat(`\x00`, 4095) + `"`
	isShown(t, tx(zeros), spelt)
	isShown(t, op(api.ONeg, tx(zeros)), "- "+spelt)
	isTooLong(t, op(api.ONot, tx(zeros)))
	isTooLong(t, op(api.OList, tx(zeros)))
	isTooLong(t, op(api.ONeg, op(api.ONeg, tx(zeros))))
	isTooLong(t, flow(op(api.OReturn, tx(zeros))))
	isTooLong(t, op(api.OList, times(2047, tx(zeros))...))
	for n := 16300; n < 16500; n++ {
		x := op(api.OAdd, op(api.OMul, in(1), op(api.OSub, tx(strings.Repeat("\xff", 2500)), tx(strings.Repeat("\"", 1500)))), tx(""))
		x[6].Text = strings.Repeat("a", n-len(plain(x, 1, false)))
		s := plain(x, 1, false)
		if len(s) != n {
			t.Fatalf("the spelling has %d bytes, not %d", len(s), n)
		}
		if n <= api.MaxSource {
			isShown(t, x, s)
		} else {
			isTooLong(t, x)
		}
	}
}
