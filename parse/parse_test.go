package parse_test

import (
	"fmt"
	"math"
	"slices"
	"testing"

	"prompter/api"
	"prompter/parse"
	"prompter/tree"
)

// short is a tree in few words.
func short(t api.Tree) string {
	if len(t) > 30 {
		return fmt.Sprintf("%v .. (%d twigs)", t[:30], len(t))
	}
	return fmt.Sprint(t)
}

// isTold fails unless that call tells that of s.
func isTold(t *testing.T, rule, s string, want api.Tree, at int, e api.Errno) {
	t.Helper()
	call := parse.Expr
	if rule == "flow" {
		call = parse.Flow
	}
	if got, gotAt, gotE := call(s); !slices.Equal(got, want) || gotAt != at || gotE != e {
		t.Errorf("%s of %.120q (%d bytes): %s, %d, %d, not %s, %d, %d", rule, s, len(s), short(got), gotAt, gotE, short(want), at, e)
	}
}

// holdAs fails unless that call tells of s what the chapter says.
func holdAs(t *testing.T, rule, s string) {
	t.Helper()
	x, at, e := told(rule, s)
	isTold(t, rule, s, x, at, e)
}

// hold fails unless Flow and Expr tell of s what the chapter says.
func hold(t *testing.T, s string) {
	t.Helper()
	holdAs(t, "flow", s)
	holdAs(t, "expr", s)
}

// isTree fails unless that call tells that tree of s, and the chapter says so.
func isTree(t *testing.T, rule, s string, x api.Tree) {
	t.Helper()
	isTold(t, rule, s, x, 0, api.OK)
	hold(t, s)
	if at, e := tree.Check(x); at != 0 || e != api.OK {
		t.Errorf("%s of %.120q is no right tree: %d, %d", rule, s, at, e)
	}
}

// isFault fails unless that call tells that fault of s, and the chapter says so.
func isFault(t *testing.T, rule, s string, at int, e api.Errno) {
	t.Helper()
	isTold(t, rule, s, nil, at, e)
	hold(t, s)
}

// in, na are trees of one twig: a number, a name.
func in(x int64) api.Tree  { return api.Tree{{Op: api.OInt, Int: x}} }
func na(s string) api.Tree { return api.Tree{tw(api.OName, s)} }

// op is a tree of that Op with these parts.
func op(op byte, parts ...api.Tree) api.Tree { return top(tw(op), parts...) }

// block is one of those statements.
func block(stmts ...api.Tree) api.Tree { return op(api.OBlock, stmts...) }

// flow is a flow f of one statement.
func flow(stmts ...api.Tree) api.Tree { return top(tw(api.OFlow, "f"), block(stmts...)) }

func TestPrims(t *testing.T) { // P9.1
	for s, want := range map[string]api.Tree{
		"none":                     op(api.ONone),
		"true":                     op(api.OTrue),
		"false":                    op(api.OFalse),
		"version":                  op(api.OVersion),
		"0":                        in(0),
		"9223372036854775807":      in(math.MaxInt64),
		`""`:                       {tw(api.OText)},
		`"let"`:                    {tw(api.OText, "let")},
		`"("`:                      {tw(api.OText, "(")},
		`"\x00\xff\n\""`:           {tw(api.OText, "\x00\xff\n\"")},
		"a":                        na("a"),
		"lets":                     na("lets"),
		"a23456789_123456789_1234": na("a23456789_123456789_1234"),
		"[]":                       op(api.OList),
		"[1]":                      op(api.OList, in(1)),
		"[1, [], a]":               op(api.OList, in(1), op(api.OList), na("a")),
		"(a)":                      na("a"),
		"(((a)))":                  na("a"),
		"len(a)":                   op(api.OLen, na("a")),
		"num(1, a)":                op(api.ONum, in(1), na("a")),
		"re(a)":                    op(api.ORe, na("a")),
		"im(a)":                    op(api.OIm, na("a")),
		"conj(a)":                  op(api.OConj, na("a")),
		"timer(5)":                 op(api.OTimer, in(5)),
		"call pay()":               top(tw(api.OCall, "pay")),
		"call pay(1, a or b)":      top(tw(api.OCall, "pay"), in(1), op(api.OOr, na("a"), na("b"))),
		"child g()":                top(tw(api.OChild, "g")),
		"child g([a], 2, 3)":       top(tw(api.OChild, "g"), op(api.OList, na("a")), in(2), in(3)),
		"fork { }":                 op(api.OFork, block()),
		"fork{do a return 1}":      op(api.OFork, block(op(api.ODrop, na("a")), op(api.OReturn, in(1)))),
		"take go":                  {tw(api.OTake, "go")},
		"# one\n a # two":          na("a"),
	} {
		isTree(t, "expr", s, want)
		isTree(t, "expr", "("+s+"\n)", want)
		isTree(t, "flow", "flow f() { return "+s+"\n}", flow(op(api.OReturn, want)))
	}
}

func TestSigns(t *testing.T) { // P9.1
	a, b, c := na("a"), na("b"), na("c")
	for s, x := range map[string]byte{
		"or": api.OOr, "and": api.OAnd, "==": api.OEq, "!=": api.ONe, "<": api.OLt, "<=": api.OLe,
		"+": api.OAdd, "-": api.OSub, "*": api.OMul, "/": api.ODiv, "%": api.OMod,
	} {
		isTree(t, "expr", "a "+s+" b", op(x, a, b))
		isTree(t, "expr", "(a "+s+" b) "+s+" c", op(x, op(x, a, b), c))
		isTree(t, "expr", "a "+s+" (b "+s+" c)", op(x, a, op(x, b, c)))
		if x < api.OEq || x > api.OLe {
			isTree(t, "expr", "a "+s+" b "+s+" c", op(x, op(x, a, b), c))
		} else {
			isFault(t, "expr", "a "+s+" b "+s+" c", 5+len(s), api.ErrText)
		}
	}
	for s, x := range map[string]byte{"not": api.ONot, "-": api.ONeg, "await": api.OAwait, "settle": api.OSettle} {
		isTree(t, "expr", s+" a", op(x, a))
		isTree(t, "expr", s+" "+s+" a", op(x, op(x, a)))
		isTree(t, "expr", s+" a[b]", op(x, op(api.OAt, a, b)))
		isTree(t, "expr", "("+s+" a)[b]", op(api.OAt, op(x, a), b))
	}
}

func TestWidths(t *testing.T) { // P9.1
	a, b, c, d := na("a"), na("b"), na("c"), na("d")
	for s, want := range map[string]api.Tree{
		"1 - 2 - 3":              op(api.OSub, op(api.OSub, in(1), in(2)), in(3)),
		"- a[0]":                 op(api.ONeg, op(api.OAt, a, in(0))),
		"not a == b":             op(api.ONot, op(api.OEq, a, b)),
		"(not a) == b":           op(api.OEq, op(api.ONot, a), b),
		"a or b and c":           op(api.OOr, a, op(api.OAnd, b, c)),
		"a and b or c":           op(api.OOr, op(api.OAnd, a, b), c),
		"(a or b) and c":         op(api.OAnd, op(api.OOr, a, b), c),
		"not a and b":            op(api.OAnd, op(api.ONot, a), b),
		"a and not b":            op(api.OAnd, a, op(api.ONot, b)),
		"a or not b or c":        op(api.OOr, op(api.OOr, a, op(api.ONot, b)), c),
		"not not a < b":          op(api.ONot, op(api.ONot, op(api.OLt, a, b))),
		"a == b and c != d":      op(api.OAnd, op(api.OEq, a, b), op(api.ONe, c, d)),
		"a + b < c - d":          op(api.OLt, op(api.OAdd, a, b), op(api.OSub, c, d)),
		"a + b * c":              op(api.OAdd, a, op(api.OMul, b, c)),
		"a * b + c":              op(api.OAdd, op(api.OMul, a, b), c),
		"a - b + c - d":          op(api.OSub, op(api.OAdd, op(api.OSub, a, b), c), d),
		"a / b % c * d":          op(api.OMul, op(api.OMod, op(api.ODiv, a, b), c), d),
		"a - - b":                op(api.OSub, a, op(api.ONeg, b)),
		"- a - b":                op(api.OSub, op(api.ONeg, a), b),
		"- a * - b":              op(api.OMul, op(api.ONeg, a), op(api.ONeg, b)),
		"await a + b":            op(api.OAdd, op(api.OAwait, a), b),
		"await settle - a":       op(api.OAwait, op(api.OSettle, op(api.ONeg, a))),
		"await call f() * 2":     op(api.OMul, op(api.OAwait, top(tw(api.OCall, "f"))), in(2)),
		"a[b][c]":                op(api.OAt, op(api.OAt, a, b), c),
		"a[b[c]]":                op(api.OAt, a, op(api.OAt, b, c)),
		"a[b or c][d]":           op(api.OAt, op(api.OAt, a, op(api.OOr, b, c)), d),
		"[a][0]":                 op(api.OAt, op(api.OList, a), in(0)),
		"(a + b)[0]":             op(api.OAt, op(api.OAdd, a, b), in(0)),
		"1[0]":                   op(api.OAt, in(1), in(0)),
		`"ab"[0]`:                op(api.OAt, api.Tree{tw(api.OText, "ab")}, in(0)),
		"take go[0]":             op(api.OAt, api.Tree{tw(api.OTake, "go")}, in(0)),
		"call f(a)[0]":           op(api.OAt, top(tw(api.OCall, "f"), a), in(0)),
		"fork { do a }[0]":       op(api.OAt, op(api.OFork, block(op(api.ODrop, a))), in(0)),
		"len(a)[0] - 1":          op(api.OSub, op(api.OAt, op(api.OLen, a), in(0)), in(1)),
		"-1":                     op(api.ONeg, in(1)),
		"a-1":                    op(api.OSub, a, in(1)),
		"- -9223372036854775807": op(api.ONeg, op(api.ONeg, in(math.MaxInt64))),
	} {
		isTree(t, "expr", s, want)
		isTree(t, "flow", "flow f() { do "+s+" }", flow(op(api.ODrop, want)))
	}
}

func TestStatements(t *testing.T) { // P9.1
	a, b := na("a"), na("b")
	set := func(name string, x api.Tree) api.Tree { return top(tw(api.OSet, name), x) }
	for s, want := range map[string]api.Tree{
		"":                           flow(),
		"let a = b":                  flow(top(tw(api.OLet, "a"), b)),
		"a = b":                      flow(set("a", b)),
		"return a":                   flow(op(api.OReturn, a)),
		"fail a":                     flow(op(api.OFail, a)),
		"sleep a":                    flow(op(api.OSleep, a)),
		"do a":                       flow(op(api.ODrop, a)),
		"if a { }":                   flow(op(api.OIf, a, block())),
		"if a { } else { }":          flow(op(api.OIf, a, block(), block())),
		"if a { a = 1 } b = 2":       flow(op(api.OIf, a, block(set("a", in(1)))), set("b", in(2))),
		"if a { } else { b = 1 }":    flow(op(api.OIf, a, block(), block(set("b", in(1))))),
		"while a { do b }":           flow(op(api.OWhile, a, block(op(api.ODrop, b)))),
		"if a { if b { } else { } }": flow(op(api.OIf, a, block(op(api.OIf, b, block(), block())))),
		"if a { if b { } } else { }": flow(op(api.OIf, a, block(op(api.OIf, b, block())), block())),
		"if fork { } { }":            flow(op(api.OIf, op(api.OFork, block()), block())),
		"if fork { } { } else { }":   flow(op(api.OIf, op(api.OFork, block()), block(), block())),
		"while fork { }[0] { }":      flow(op(api.OWhile, op(api.OAt, op(api.OFork, block()), in(0)), block())),
		"do a b = 1":                 flow(op(api.ODrop, a), set("b", in(1))),
		"do a do b":                  flow(op(api.ODrop, a), op(api.ODrop, b)),
		"a = b b = a":                flow(set("a", b), set("b", a)),
		"a = take b b = a":           flow(set("a", api.Tree{tw(api.OTake, "b")}), set("b", a)),
		"do a [b]":                   flow(op(api.ODrop, op(api.OAt, a, b))),
		"do a - b":                   flow(op(api.ODrop, op(api.OSub, a, b))),
		"do a\n\n- b":                flow(op(api.ODrop, op(api.OSub, a, b))),
		"let f = f":                  flow(top(tw(api.OLet, "f"), na("f"))),
		"return fork { return a }":   flow(op(api.OReturn, op(api.OFork, block(op(api.OReturn, a))))),
	} {
		isTree(t, "flow", "flow f() { "+s+" }", want)
		isTree(t, "expr", "fork { "+s+" }", top(tw(api.OFork), want[1:]))
	}
}

func TestFlows(t *testing.T) { // P9.1
	p, q := api.Tree{tw(api.OParam, "p")}, api.Tree{tw(api.OParam, "q")}
	isTree(t, "flow", "flow f(p) { return p }", top(tw(api.OFlow, "f"), p, block(op(api.OReturn, na("p")))))
	isTree(t, "flow", "flow g(p, q) { }", top(tw(api.OFlow, "g"), p, q, block()))
	isTree(t, "flow", "flow p(p,p,q){}", top(tw(api.OFlow, "p"), p, p, q, block()))
	isTree(t, "flow", "# all\nflow f\n(\n)\n{\n}\n# done", flow())
	isTree(t, "flow", "flow f() { let h = fork { return take go } sleep 3 return await h }", flow(
		top(tw(api.OLet, "h"), op(api.OFork, block(op(api.OReturn, api.Tree{tw(api.OTake, "go")})))),
		op(api.OSleep, in(3)), op(api.OReturn, op(api.OAwait, na("h")))))
}

// ends stands for the place behind the last byte, where what ends too early is told.
const ends = -1

func TestWrongExpressions(t *testing.T) { // P9.1
	for s, at := range map[string]int{
		"a < b < c": 6, "a b": 2, "let": 0, "a + not b": 4, "[1,]": 3, "- not a": 2, "await not a": 6, "a == not b": 5, "not a == not b": 9,
		"a <= b != c": 7, "a == b == c": 7, "a = b": 2, "()": 1, "a)": 1, ")": 0, "(a]": 2, "[a)": 2, "[,]": 1, "[a b]": 3, "[a,,b]": 3, "a[]": 2, "a[1,2]": 3, "a()": 1, "call": ends,
		"call 1": 5, "call f": ends, "call f[": 6, "call f(,)": 7, "call f(1,)": 9, `call "f"()`: 5, "call len()": 5, "child take()": 6, "take": ends, "take 1": 5, "take if": 5, `take "a"`: 5, "take go()": 7,
		"len a": 4, "len()": 4, "len(a, b)": 5, "len": ends, "num(a)": 5, "num(a,)": 6, "num(a, b, c)": 8, "num()": 4, "re a": 3, "im[a]": 2, "conj()": 5, "timer 5": 6, "timer()": 6,
		"fork": ends, "fork a": 5, "fork (": 5, "fork { 1 }": 7, "fork { a }": 9, "fork { } }": 9, "none none": 5, "1 2": 2, `"a" "b"`: 4, "true()": 4, "version[": ends, "+ a": 0, "* a": 0, "a * + b": 4, "a and or b": 6, "and a": 0,
		"flow f() { }": 0, "{ }": 0, "[{ }]": 1, "else": 0, "a else": 2, "if a { }": 0, "return a": 0, "a, b": 1, "=": 0, "==": 0, "not": ends, "-": ends, "a -": ends, "(a": ends, "[a": ends, "a[": ends, "a[b": ends, "": ends, "a or": ends, "fork {": ends, "num(a": ends, "num(a,": ends,
	} {
		if at == ends {
			isFault(t, "expr", s, len(s), api.ErrShort)
			isFault(t, "expr", s+" # and\n ", len(s)+8, api.ErrShort)
			isFault(t, "expr", "\n\n"+s, len(s)+2, api.ErrShort)
			isFault(t, "expr", s+" flow", len(s)+1, api.ErrText)
			continue
		}
		isFault(t, "expr", s, at, api.ErrText)
		isFault(t, "expr", "# so\n  "+s, 7+at, api.ErrText)
		isFault(t, "expr", s+" ) let", at, api.ErrText)
		isFault(t, "expr", s+"#", at, api.ErrText)
	}
}

func TestWrongFlows(t *testing.T) { // P9.1
	for s, at := range map[string]int{
		"a": 0, "let": 0, "{": 0, "1": 0, `"flow"`: 0, "flows f()": 0, "flow flow": 5, "flow do()": 5, "flow 1": 5, "flow (": 5, `flow "f"`: 5, "flow f {": 7, "flow f[": 6, "flow f(1": 7, "flow f(not": 7, "flow f(,": 7, "flow f(a b": 9, "flow f(a,)": 9, "flow f(a,,": 9, "flow f((": 7, "flow f(a = 1": 9,
		"flow f() a": 9, "flow f() (": 9, "flow f() { x }": 13, "flow f() { 1": 11, "flow f() { x == 1": 13, "flow f() { x 1": 13, "flow f() { x[0] = 1": 12, "flow f() { f()": 12, "flow f() { { }": 11, "flow f() { } }": 13, "flow f() { } flow g() { }": 13, "flow f() { } a": 13,
		"flow f() { let }": 15, "flow f() { let let": 15, "flow f() { let 1": 15, "flow f() { let a }": 17, "flow f() { let a == 1": 17, "flow f() { let a = }": 19, "flow f() { let a = let": 19, "flow f() { let a = b = c": 21, "flow f() { let a = 1, b": 20,
		"flow f() { if { }": 14, "flow f() { if a }": 16, "flow f() { if a do b": 16, "flow f() { if a { } else }": 25, "flow f() { if a { } else if b": 25, "flow f() { if a { } else do": 25, "flow f() { if a { } else { } else": 29, "flow f() { else": 11, "flow f() { while a { } else": 23, "flow f() { while { }": 17, "flow f() { while": ends, "flow f() { do a } else": 18,
		"flow f() { return }": 18, "flow f() { return return": 18, "flow f() { fail }": 16, "flow f() { sleep }": 17, "flow f() { do }": 14, "flow f() { do a = 1": 16, "flow f() { do if": 14, "flow f() { do a < b < c": 20, "flow f() { return a, b": 19, "flow f() { a = }": 15, "flow f() { not": 11, "flow f() { - a": 11, "flow f() { await a": 11, "flow f() { call f()": 11, "flow f() { fork { } }": 11, "flow f() { do fork { do a ) }": 26,
		"": ends, "flow": ends, "flow f": ends, "flow f(": ends, "flow f(a": ends, "flow f(a,": ends, "flow f(a, b": ends, "flow f()": ends, "flow f() {": ends, "flow f() { x": ends, "flow f() { x =": ends, "flow f() { let": ends, "flow f() { let x": ends, "flow f() { let x =": ends, "flow f() { let x = 1": ends, "flow f() { if": ends, "flow f() { if a": ends, "flow f() { if a {": ends, "flow f() { if a { }": ends, "flow f() { if a { } else": ends, "flow f() { if a { } else {": ends, "flow f() { if a { } else { }": ends, "flow f() { return": ends, "flow f() { do fork { }": ends,
	} {
		if at == ends {
			isFault(t, "flow", s, len(s), api.ErrShort)
			isFault(t, "flow", s+" # and\n ", len(s)+8, api.ErrShort)
			isFault(t, "flow", "\n\n"+s, len(s)+2, api.ErrShort)
			if s != "" {
				isFault(t, "flow", s+" flow", len(s)+1, api.ErrText)
			}
			continue
		}
		isFault(t, "flow", s, at, api.ErrText)
		isFault(t, "flow", "# so\n  "+s, 7+at, api.ErrText)
		isFault(t, "flow", s+" ) let", at, api.ErrText)
	}
}
