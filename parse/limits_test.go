package parse_test

import (
	"slices"
	"strings"
	"testing"

	"prompter/api"
	"prompter/parse"
)

// nested is so many trees of that Op in one another, x in the innermost.
func nested(n int, of byte, x api.Tree) api.Tree {
	for range n {
		x = op(of, x)
	}
	return x
}

func TestDeepest(t *testing.T) { // P9.1
	for s, of := range map[string]byte{"not ": api.ONot, "-": api.ONeg, "await ": api.OAwait, "settle\n": api.OSettle} {
		isTree(t, "expr", strings.Repeat(s, 39)+"1", nested(39, of, in(1)))
		isFault(t, "expr", strings.Repeat(s, 40)+"1", 0, api.ErrLong)
		isTree(t, "flow", "flow f() { do "+strings.Repeat(s, 36)+"1 }", flow(op(api.ODrop, nested(36, of, in(1)))))
		isFault(t, "flow", "flow f() { do "+strings.Repeat(s, 37)+"1 }", 0, api.ErrLong)
	}
	for s, of := range map[string][]byte{"[": {api.OList}, "len(": {api.OLen}, "timer(": {api.OTimer}, "fork{do ": {api.OFork, api.OBlock, api.ODrop}} {
		end := map[byte]string{'[': "]", '(': ")", ' ': "}"}[s[len(s)-1]]
		for n := 12; n < 42; n++ {
			source, want := strings.Repeat(s, n)+"1"+strings.Repeat(end, n), in(1)
			for range n {
				for _, x := range slices.Backward(of) {
					want = op(x, want)
				}
			}
			if n*len(of) < 40 {
				isTree(t, "expr", source, want)
			} else {
				isFault(t, "expr", source, 0, api.ErrLong)
			}
		}
	}
	// Rows lie the deeper the longer they are.
	for _, s := range []string{" or 1", " and 1", "+1", "-1", "*1", "/1", "%1", "[1]"} {
		if x, at, e := parse.Expr("1" + strings.Repeat(s, 39)); len(x) != 79 || at != 0 || e != api.OK {
			t.Errorf("a row of %q: %s, %d, %d", s, short(x), at, e)
		}
		hold(t, "1"+strings.Repeat(s, 39))
		isFault(t, "expr", "1"+strings.Repeat(s, 40), 0, api.ErrLong)
	}
	// Brackets alone leave nothing.
	isTree(t, "expr", strings.Repeat("(", 100)+"1"+strings.Repeat(")", 100), in(1))
	isTold(t, "expr", strings.Repeat("(", 8191)+"1"+strings.Repeat(")", 8191), in(1), 0, api.OK)
	isTold(t, "expr", strings.Repeat("(-", 39)+"1"+strings.Repeat(")", 39), nested(39, api.ONeg, in(1)), 0, api.OK)
	isFault(t, "expr", strings.Repeat("(-", 40)+"1"+strings.Repeat(")", 40), 0, api.ErrLong)
}

func TestMost(t *testing.T) { // P9.1
	list := func(n int) string { return "[" + strings.Repeat("1,", n-1) + "1]" }
	ones := func(n int) []api.Tree { return slices.Repeat([]api.Tree{in(1)}, n) }
	isTree(t, "expr", list(2047), op(api.OList, ones(2047)...))
	isFault(t, "expr", list(2048), 0, api.ErrLong)
	isFault(t, "expr", list(2049), 0, api.ErrLong)
	isFault(t, "expr", list(8000), 0, api.ErrLong)
	isTree(t, "expr", "call f("+list(2046)+")", top(tw(api.OCall, "f"), op(api.OList, ones(2046)...)))
	isFault(t, "expr", "call f("+list(2047)+")", 0, api.ErrLong)
	isTree(t, "expr", list(1000)+"+"+list(1045), op(api.OAdd, op(api.OList, ones(1000)...), op(api.OList, ones(1045)...)))
	isFault(t, "expr", list(1000)+"+"+list(1046), 0, api.ErrLong)

	params := func(n int) string { return "flow f(" + strings.Repeat("p,", n-1) + "p) {}" }
	all := append(slices.Repeat([]api.Tree{{tw(api.OParam, "p")}}, 2046), block())
	isTree(t, "flow", params(2046), top(tw(api.OFlow, "f"), all...))
	isFault(t, "flow", params(2047), 0, api.ErrLong)
	isFault(t, "flow", params(2048), 0, api.ErrLong)
	isFault(t, "flow", params(5000), 0, api.ErrLong)

	stmts := func(n int) string { return "flow f() {" + strings.Repeat("a=1 ", n) + "}" }
	isTree(t, "flow", stmts(1023), flow(slices.Repeat([]api.Tree{top(tw(api.OSet, "a"), in(1))}, 1023)...))
	isFault(t, "flow", stmts(1024), 0, api.ErrLong)
}

// TestFaultsGoAhead tells that what is no flow or expression is told ahead of what is too long or too deep.
func TestFaultsGoAhead(t *testing.T) { // P9.1
	nots := strings.Repeat("not ", 1000)
	isFault(t, "expr", nots, 4000, api.ErrShort)
	isFault(t, "expr", nots+")", 4000, api.ErrText)
	isFault(t, "expr", nots+"1 1", 4002, api.ErrText)
	isFault(t, "expr", nots+"1 ?", 4002, api.ErrText)
	isTold(t, "expr", nots+"1", nil, 0, api.ErrLong)
	ones := strings.Repeat("1,", 4000)
	isFault(t, "expr", "["+ones, 8001, api.ErrShort)
	isFault(t, "expr", "["+ones+"]", 8001, api.ErrText)
	isFault(t, "expr", "["+ones+"1", 8002, api.ErrShort)
	isFault(t, "expr", "["+ones+"1] 1", 8004, api.ErrText)
	isFault(t, "flow", "flow f() { do ["+ones+"1] ", 8018, api.ErrShort)
	isFault(t, "flow", "flow f() { do ["+ones+"1] } 1", 8020, api.ErrText)
	isFault(t, "flow", "flow f() { do "+nots+"}", 4014, api.ErrText)
}

func TestLongSources(t *testing.T) { // P9.1
	room := func(s string, n int) string { return s + strings.Repeat(" ", n-len(s)) }
	isTree(t, "expr", room("1", api.MaxSource), in(1))
	isFault(t, "expr", room("1", api.MaxSource+1), 0, api.ErrLong)
	isFault(t, "expr", room("(1", api.MaxSource), api.MaxSource, api.ErrShort)
	isFault(t, "expr", room(")", api.MaxSource), 0, api.ErrText)
	isFault(t, "expr", room(")", api.MaxSource+1), 0, api.ErrLong)
	isTree(t, "flow", room("flow f(){}", api.MaxSource), flow())
	isFault(t, "flow", room("flow f(){}", api.MaxSource+1), 0, api.ErrLong)
	isFault(t, "flow", strings.Repeat(" ", 1<<20), 0, api.ErrLong)
	isTree(t, "expr", strings.Repeat(" ", api.MaxSource-1)+"a", na("a"))
}

// TestEnds tells that what is nested or strung as far as a source can be is gone through, too.
func TestEnds(t *testing.T) { // P9.1
	for _, again := range []string{
		"(", "[", "not ", "-", "await ", "settle ", "1+(", "a[", "len(", "num(1,", "num(", "call f(", "child f(1,[", "fork{do ", "fork{if ", "fork{if 1{}else{do ", "a or not(", "a*", "a+",
	} {
		s := strings.Repeat(again, (api.MaxSource-1)/len(again))
		isTold(t, "expr", s, nil, len(s), api.ErrShort)
		isTold(t, "expr", s+"}", nil, len(s), api.ErrText)
		s = "flow f(){do " + strings.Repeat(again, (api.MaxSource-13)/len(again))
		isTold(t, "flow", s, nil, len(s), api.ErrShort)
		isTold(t, "flow", s+"=", nil, len(s), api.ErrText)
	}
	for _, again := range []string{"+1", "*1", "[1]", " or 1", " and 1", "-a", " % a[1]"} {
		s := "1" + strings.Repeat(again, (api.MaxSource-1)/len(again))
		isTold(t, "expr", s, nil, 0, api.ErrLong)
		isTold(t, "expr", s[:len(s)-len(again)]+")", nil, len(s)-len(again), api.ErrText)
	}
	for _, again := range []string{"if a{", "while a{", "if a{}else{", "do fork{", "a=fork{let a=fork{", "a=1 ", "if a{}"} {
		s := "flow f(){" + strings.Repeat(again, (api.MaxSource-10)/len(again))
		isTold(t, "flow", s, nil, len(s), api.ErrShort)
		isTold(t, "flow", s+")", nil, len(s), api.ErrText)
	}
}

// spoil writes into all that x has, its spare room too.
func spoil(x api.Tree) {
	x = x[:cap(x)]
	for i := range x {
		x[i] = tw(98, "spoilt")
	}
}

func TestAnswersShareNothing(t *testing.T) { // P9.2
	for _, x := range []struct{ rule, s string }{
		{"expr", "a"}, {"expr", `[1, "b", - c[0]]`}, {"expr", "call pay(a, b) or take go"},
		{"flow", "flow f(p) { if p { return p } else { p = 1 } }"}, {"flow", "flow f() { }"},
	} {
		call := parse.Expr
		if x.rule == "flow" {
			call = parse.Flow
		}
		want, _, _ := told(x.rule, x.s)
		first, _, _ := call(x.s)
		second, _, _ := call(x.s)
		spoil(first)
		if !slices.Equal(second, want) {
			t.Errorf("%s of %q: %s, not %s, once what another call told was spoilt", x.rule, x.s, short(second), short(want))
		}
		isTold(t, x.rule, x.s, want, 0, api.OK)
	}
}
