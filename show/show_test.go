package show_test

import (
	"fmt"
	"math"
	"slices"
	"strings"
	"testing"

	"prompter/api"
	"prompter/parse"
	"prompter/show"
	"prompter/token"
)

// tw is a twig without parts.
func tw(op byte, text ...string) api.Twig {
	return api.Twig{Op: op, Text: strings.Join(text, "")}
}

// top is a tree of a twig and parts, as many as they are.
func top(x api.Twig, parts ...api.Tree) api.Tree {
	x.Kids = len(parts)
	return append(api.Tree{x}, slices.Concat(parts...)...)
}

// op is a tree of that Op with these parts.
func op(op byte, parts ...api.Tree) api.Tree { return top(tw(op), parts...) }

// in, na, tx are trees of one twig: a number, a name, a text.
func in(x int64) api.Tree  { return api.Tree{{Op: api.OInt, Int: x}} }
func na(s string) api.Tree { return api.Tree{tw(api.OName, s)} }
func tx(s string) api.Tree { return api.Tree{tw(api.OText, s)} }

// block is one of those statements.
func block(stmts ...api.Tree) api.Tree { return op(api.OBlock, stmts...) }

// flow is a flow f of those statements.
func flow(stmts ...api.Tree) api.Tree { return top(tw(api.OFlow, "f"), block(stmts...)) }

// short is a tree in few words.
func short(t api.Tree) string {
	if len(t) > 30 {
		return fmt.Sprintf("%v .. (%d twigs)", t[:30], len(t))
	}
	return fmt.Sprint(t)
}

// reading is the tree that is read of a source, if one is.
func reading(op byte, s string) (api.Tree, api.Errno) {
	call := parse.Expr
	if op == api.OFlow {
		call = parse.Flow
	}
	t, _, e := call(s)
	return t, e
}

// bare is tokens without their places.
func bare(l []api.Token) []api.Token {
	for i := range l {
		l[i].At = 0
	}
	return l
}

// isShown fails unless x is shown as s, which has its tokens and is read as x.
func isShown(t *testing.T, x api.Tree, s string) {
	t.Helper()
	if got, e := show.Tree(x); got != s || e != api.OK {
		t.Errorf("Tree(%s): %.200q, %d, not %.200q", short(x), got, e, s)
	}
	want, _, _ := token.All(s)
	if got, e := show.Tokens(x); !slices.Equal(got, bare(want)) || e != api.OK {
		t.Errorf("Tokens(%s): %.200s, %d, not %.200s", short(x), fmt.Sprint(got), e, fmt.Sprint(want))
	}
	if got, e := reading(x[0].Op, s); !slices.Equal(got, x) || e != api.OK {
		t.Errorf("%.200q is read as %s, %d, not %s", s, short(got), e, short(x))
	}
}

// isAnywhere fails unless an expression is shown as s, and so in some other trees.
func isAnywhere(t *testing.T, s string, x api.Tree) {
	t.Helper()
	isShown(t, x, s)
	isShown(t, op(api.OList, x), "[ "+s+" ]")
	isShown(t, op(api.OList, in(1), x, x), "[ 1 , "+s+" , "+s+" ]")
	isShown(t, flow(op(api.OReturn, x)), "flow f ( ) { return "+s+" }")
	isShown(t, op(api.OFork, block(op(api.ODrop, x), op(api.ODrop, x))), "fork { do "+s+" do "+s+" }")
}

func TestPrims(t *testing.T) { // P10.1, P10.3
	for s, x := range map[string]api.Tree{
		"none":                     op(api.ONone),
		"true":                     op(api.OTrue),
		"false":                    op(api.OFalse),
		"version":                  op(api.OVersion),
		"0":                        in(0),
		"42":                       in(42),
		"9223372036854775807":      in(math.MaxInt64),
		`""`:                       tx(""),
		`"let"`:                    tx("let"),
		`"a ( \" \\ \n \x00\x7f#"`: tx("a ( \" \\ \n \x00\x7f#"),
		"a":                        na("a"),
		"a23456789_123456789_1234": na("a23456789_123456789_1234"),
		"[ ]":                      op(api.OList),
		"[ 1 ]":                    op(api.OList, in(1)),
		"[ 1 , [ ] , a ]":          op(api.OList, in(1), op(api.OList), na("a")),
		"num ( 1 , a )":            op(api.ONum, in(1), na("a")),
		"len ( a )":                op(api.OLen, na("a")),
		"re ( a )":                 op(api.ORe, na("a")),
		"im ( a )":                 op(api.OIm, na("a")),
		"conj ( a )":               op(api.OConj, na("a")),
		"timer ( 5 )":              op(api.OTimer, in(5)),
		"call pay ( )":             top(tw(api.OCall, "pay")),
		"call pay ( 1 )":           top(tw(api.OCall, "pay"), in(1)),
		"call pay ( 1 , a or b )":  top(tw(api.OCall, "pay"), in(1), op(api.OOr, na("a"), na("b"))),
		"child g ( )":              top(tw(api.OChild, "g")),
		"child g ( [ a ] , 2 )":    top(tw(api.OChild, "g"), op(api.OList, na("a")), in(2)),
		"fork { }":                 op(api.OFork, block()),
		"fork { do a return 1 }":   op(api.OFork, block(op(api.ODrop, na("a")), op(api.OReturn, in(1)))),
		"take go":                  {tw(api.OTake, "go")},
	} {
		isAnywhere(t, s, x)
		isAnywhere(t, "- "+s, op(api.ONeg, x))
		isAnywhere(t, s+" [ "+s+" ]", op(api.OAt, x, x))
		isAnywhere(t, s+" % "+s, op(api.OMod, x, x))
	}
}

func TestSigns(t *testing.T) { // P10.1, P10.3
	a, b, c := na("a"), na("b"), na("c")
	for s, x := range map[string]byte{
		"or": api.OOr, "and": api.OAnd, "==": api.OEq, "!=": api.ONe, "<": api.OLt, "<=": api.OLe,
		"+": api.OAdd, "-": api.OSub, "*": api.OMul, "/": api.ODiv, "%": api.OMod,
	} {
		isAnywhere(t, "a "+s+" b", op(x, a, b))
		isAnywhere(t, "a "+s+" ( b "+s+" c )", op(x, a, op(x, b, c)))
		if x < api.OEq || x > api.OLe {
			isAnywhere(t, "a "+s+" b "+s+" c", op(x, op(x, a, b), c))
		} else {
			isAnywhere(t, "( a "+s+" b ) "+s+" c", op(x, op(x, a, b), c))
		}
		isAnywhere(t, "( a "+s+" b ) [ a "+s+" b ]", op(api.OAt, op(x, a, b), op(x, a, b)))
	}
	for s, x := range map[string]byte{"not": api.ONot, "-": api.ONeg, "await": api.OAwait, "settle": api.OSettle} {
		isAnywhere(t, s+" a", op(x, a))
		isAnywhere(t, s+" "+s+" a", op(x, op(x, a)))
		isAnywhere(t, s+" a [ b ]", op(x, op(api.OAt, a, b)))
		isAnywhere(t, "( "+s+" a ) [ b ]", op(api.OAt, op(x, a), b))
		isAnywhere(t, s+" ( a and b )", op(x, op(api.OAnd, a, b)))
	}
}

func TestWidths(t *testing.T) { // P10.1, P10.3
	a, b, c, d := na("a"), na("b"), na("c"), na("d")
	for s, x := range map[string]api.Tree{
		"1 - 2 - 3":                     op(api.OSub, op(api.OSub, in(1), in(2)), in(3)),
		"1 - ( 2 - 3 )":                 op(api.OSub, in(1), op(api.OSub, in(2), in(3))),
		"not a == b":                    op(api.ONot, op(api.OEq, a, b)),
		"( not a ) == b":                op(api.OEq, op(api.ONot, a), b),
		"a == ( not b )":                op(api.OEq, a, op(api.ONot, b)),
		"- ( not a )":                   op(api.ONeg, op(api.ONot, a)),
		"not - a":                       op(api.ONot, op(api.ONeg, a)),
		"( - a ) [ 0 ]":                 op(api.OAt, op(api.ONeg, a), in(0)),
		"a or b and c":                  op(api.OOr, a, op(api.OAnd, b, c)),
		"a and b or c":                  op(api.OOr, op(api.OAnd, a, b), c),
		"( a or b ) and c":              op(api.OAnd, op(api.OOr, a, b), c),
		"a and ( b or c )":              op(api.OAnd, a, op(api.OOr, b, c)),
		"not a and not b":               op(api.OAnd, op(api.ONot, a), op(api.ONot, b)),
		"not ( a and b )":               op(api.ONot, op(api.OAnd, a, b)),
		"not ( a or b ) or c":           op(api.OOr, op(api.ONot, op(api.OOr, a, b)), c),
		"a < b and c <= d":              op(api.OAnd, op(api.OLt, a, b), op(api.OLe, c, d)),
		"( a < b ) == ( c <= d )":       op(api.OEq, op(api.OLt, a, b), op(api.OLe, c, d)),
		"( a and b ) != ( c or d )":     op(api.ONe, op(api.OAnd, a, b), op(api.OOr, c, d)),
		"a + b < c - d":                 op(api.OLt, op(api.OAdd, a, b), op(api.OSub, c, d)),
		"( a < b ) + ( c < d )":         op(api.OAdd, op(api.OLt, a, b), op(api.OLt, c, d)),
		"a + b * c":                     op(api.OAdd, a, op(api.OMul, b, c)),
		"( a + b ) * ( c - d )":         op(api.OMul, op(api.OAdd, a, b), op(api.OSub, c, d)),
		"a * b / c % d":                 op(api.OMod, op(api.ODiv, op(api.OMul, a, b), c), d),
		"a * ( b / ( c % d ) )":         op(api.OMul, a, op(api.ODiv, b, op(api.OMod, c, d))),
		"a - - b":                       op(api.OSub, a, op(api.ONeg, b)),
		"- a * - b":                     op(api.OMul, op(api.ONeg, a), op(api.ONeg, b)),
		"- ( a * b )":                   op(api.ONeg, op(api.OMul, a, b)),
		"- - 1":                         op(api.ONeg, op(api.ONeg, in(1))),
		"await a + settle b":            op(api.OAdd, op(api.OAwait, a), op(api.OSettle, b)),
		"await ( a + b )":               op(api.OAwait, op(api.OAdd, a, b)),
		"await settle - a":              op(api.OAwait, op(api.OSettle, op(api.ONeg, a))),
		"( await a ) [ await b ]":       op(api.OAt, op(api.OAwait, a), op(api.OAwait, b)),
		"settle ( not a )":              op(api.OSettle, op(api.ONot, a)),
		"a [ b ] [ c ]":                 op(api.OAt, op(api.OAt, a, b), c),
		"a [ b [ c ] ]":                 op(api.OAt, a, op(api.OAt, b, c)),
		"( a + b ) [ c or d ]":          op(api.OAt, op(api.OAdd, a, b), op(api.OOr, c, d)),
		"[ a or b , not c ] [ 0 ]":      op(api.OAt, op(api.OList, op(api.OOr, a, b), op(api.ONot, c)), in(0)),
		"( ( a or b ) and c ) [ 0 ]":    op(api.OAt, op(api.OAnd, op(api.OOr, a, b), c), in(0)),
		"- ( - ( a + b ) ) [ c ]":       op(api.ONeg, op(api.OAt, op(api.ONeg, op(api.OAdd, a, b)), c)),
		"num ( a or b , - 2 )":          op(api.ONum, op(api.OOr, a, b), op(api.ONeg, in(2))),
		"len ( a or b ) [ 0 ]":          op(api.OAt, op(api.OLen, op(api.OOr, a, b)), in(0)),
		"timer ( a < b )":               op(api.OTimer, op(api.OLt, a, b)),
		"call f ( a or b , not c ) - d": op(api.OSub, top(tw(api.OCall, "f"), op(api.OOr, a, b), op(api.ONot, c)), d),
	} {
		isAnywhere(t, s, x)
	}
}

func TestStatements(t *testing.T) { // P10.1, P10.3
	a, b := na("a"), na("b")
	set := func(name string, x api.Tree) api.Tree { return top(tw(api.OSet, name), x) }
	for s, x := range map[string]api.Tree{
		"let a = b":                  top(tw(api.OLet, "a"), b),
		"let a = a or b":             top(tw(api.OLet, "a"), op(api.OOr, a, b)),
		"a = b":                      set("a", b),
		"a = not a == b":             set("a", op(api.ONot, op(api.OEq, a, b))),
		"a = take b":                 set("a", api.Tree{tw(api.OTake, "b")}),
		"return a or b":              op(api.OReturn, op(api.OOr, a, b)),
		"fail - a":                   op(api.OFail, op(api.ONeg, a)),
		"sleep a and b":              op(api.OSleep, op(api.OAnd, a, b)),
		"do call f ( )":              op(api.ODrop, top(tw(api.OCall, "f"))),
		"if a { }":                   op(api.OIf, a, block()),
		"if a or b { } else { }":     op(api.OIf, op(api.OOr, a, b), block(), block()),
		"if a { a = 1 } else { }":    op(api.OIf, a, block(set("a", in(1))), block()),
		"if a { } else { do a }":     op(api.OIf, a, block(), block(op(api.ODrop, a))),
		"while a < b { do b }":       op(api.OWhile, op(api.OLt, a, b), block(op(api.ODrop, b))),
		"while a { }":                op(api.OWhile, a, block()),
		"if fork { } { }":            op(api.OIf, op(api.OFork, block()), block()),
		"if fork { } { } else { }":   op(api.OIf, op(api.OFork, block()), block(), block()),
		"if a { if b { } } else { }": op(api.OIf, a, block(op(api.OIf, b, block())), block()),
		"if a { if b { } else { } }": op(api.OIf, a, block(op(api.OIf, b, block(), block()))),
	} {
		isShown(t, flow(x), "flow f ( ) { "+s+" }")
		isShown(t, flow(x, x), "flow f ( ) { "+s+" "+s+" }")
		isShown(t, op(api.OFork, block(x, set("b", a), x)), "fork { "+s+" b = a "+s+" }")
		isShown(t, flow(op(api.OWhile, a, block(x))), "flow f ( ) { while a { "+s+" } }")
	}
}

func TestFlows(t *testing.T) { // P10.1, P10.3
	p, q := api.Tree{tw(api.OParam, "p")}, api.Tree{tw(api.OParam, "q")}
	isShown(t, flow(), "flow f ( ) { }")
	isShown(t, top(tw(api.OFlow, "g"), p, block()), "flow g ( p ) { }")
	isShown(t, top(tw(api.OFlow, "p"), p, p, q, block()), "flow p ( p , p , q ) { }")
	isShown(t, top(tw(api.OFlow, "f"), p, q, block(op(api.OReturn, op(api.OAdd, na("p"), na("q"))))), "flow f ( p , q ) { return p + q }")
	isShown(t, flow(
		top(tw(api.OLet, "h"), op(api.OFork, block(op(api.OReturn, api.Tree{tw(api.OTake, "go")})))),
		op(api.OSleep, in(3)), op(api.OReturn, op(api.OAwait, na("h")))),
		"flow f ( ) { let h = fork { return take go } sleep 3 return await h }")
}

func TestTokens(t *testing.T) { // P10.1
	sign := func(s string) api.Token { return api.Token{Kind: api.TSign, Text: s} }
	word := func(s string) api.Token { return api.Token{Kind: api.TWord, Text: s} }
	for _, c := range []struct {
		x api.Tree
		l []api.Token
	}{
		{api.Tree{tw(api.OTake, "go")}, []api.Token{word("take"), word("go")}},
		{op(api.OMul, op(api.ONeg, in(7)), op(api.OAdd, tx(""), tx("a"))), []api.Token{
			sign("-"), {Kind: api.TInt, Int: 7}, sign("*"), sign("("), {Kind: api.TText}, sign("+"), {Kind: api.TText, Text: "a"}, sign(")"),
		}},
		{op(api.OAt, op(api.OAwait, na("a")), op(api.ONot, op(api.OTrue))), []api.Token{
			sign("("), word("await"), word("a"), sign(")"), sign("["), word("not"), word("true"), sign("]"),
		}},
		{flow(op(api.OReturn, op(api.OLe, in(0), tx("<=")))), []api.Token{
			word("flow"), word("f"), sign("("), sign(")"), sign("{"), word("return"), {Kind: api.TInt}, sign("<="), {Kind: api.TText, Text: "<="}, sign("}"),
		}},
	} {
		if l, e := show.Tokens(c.x); !slices.Equal(l, c.l) || e != api.OK {
			t.Errorf("Tokens(%v): %v, %d, not %v", c.x, l, e, c.l)
		}
	}
}
