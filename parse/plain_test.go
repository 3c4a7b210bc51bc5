package parse_test

import (
	"slices"
	"strings"

	"prompter/api"
	"prompter/token"
)

// What is here reads tokens of which it is known already that they are right, by cutting them where the weakest sign stands.

// tw is a twig without parts.
func tw(op byte, text ...string) api.Twig {
	return api.Twig{Op: op, Text: strings.Join(text, "")}
}

// top is a tree of a twig and parts, as many as they are.
func top(x api.Twig, parts ...api.Tree) api.Tree {
	x.Kids = len(parts)
	return append(api.Tree{x}, slices.Concat(parts...)...)
}

// is tells whether x is one of these words and signs.
func is(x api.Token, marks ...string) bool {
	return (x.Kind == api.TWord || x.Kind == api.TSign) && slices.Contains(marks, x.Text)
}

// isOwn tells whether x is a word of one's own.
func isOwn(x api.Token) bool {
	return x.Kind == api.TWord && !token.Keyword(x.Text)
}

// outside are the places of l that lie in no brackets; those of the brackets do, but for what closes them.
func outside(l []api.Token) (places []int) {
	open := 0
	for i, x := range l {
		if is(x, ")", "]", "}") {
			open--
		}
		if open == 0 {
			places = append(places, i)
		}
		if is(x, "(", "[", "{") {
			open++
		}
	}
	return places
}

// openOf is where the bracket opens that the last token of l closes.
func openOf(l []api.Token) int {
	open := 0
	for i, x := range slices.Backward(l) {
		if is(x, ")", "]", "}") {
			open++
		}
		if is(x, "(", "[", "{") {
			open--
		}
		if open == 0 {
			return i
		}
	}
	return -1
}

// endsOne tells whether an expression may end with x.
func endsOne(x api.Token) bool {
	return x.Kind == api.TInt || x.Kind == api.TText || isOwn(x) || is(x, ")", "]", "}", "none", "true", "false", "version")
}

// lastOf is the last place outside of brackets where one of these stands between two expressions; or -1.
func lastOf(l []api.Token, marks ...string) int {
	for _, i := range slices.Backward(outside(l)) {
		if i > 0 && endsOne(l[i-1]) && is(l[i], marks...) {
			return i
		}
	}
	return -1
}

// apart cuts l where commas stand outside of brackets.
func apart(l []api.Token) (pieces [][]api.Token) {
	begin := 0
	for _, i := range outside(l) {
		if is(l[i], ",") {
			pieces = append(pieces, l[begin:i])
			begin = i + 1
		}
	}
	if len(l) > 0 {
		pieces = append(pieces, l[begin:])
	}
	return pieces
}

func plainExprs(l []api.Token) (all []api.Tree) {
	for _, p := range apart(l) {
		all = append(all, plainExpr(p))
	}
	return all
}

var ofTwo = map[string]byte{
	"or": api.OOr, "and": api.OAnd, "==": api.OEq, "!=": api.ONe, "<": api.OLt, "<=": api.OLe,
	"+": api.OAdd, "-": api.OSub, "*": api.OMul, "/": api.ODiv, "%": api.OMod,
}

var ofWord = map[string]byte{
	"let": api.OLet, "return": api.OReturn, "fail": api.OFail, "sleep": api.OSleep, "do": api.ODrop,
	"not": api.ONot, "-": api.ONeg, "await": api.OAwait, "settle": api.OSettle,
	"none": api.ONone, "true": api.OTrue, "false": api.OFalse, "version": api.OVersion,
	"len": api.OLen, "num": api.ONum, "re": api.ORe, "im": api.OIm, "conj": api.OConj, "timer": api.OTimer,
	"call": api.OCall, "child": api.OChild, "take": api.OTake,
}

func plainExpr(l []api.Token) api.Tree {
	for _, weak := range [][]string{{"or"}, {"and"}, {"not"}, {"==", "!=", "<", "<="}, {"+", "-"}, {"*", "/", "%"}} {
		if i := lastOf(l, weak...); i > 0 {
			return top(tw(ofTwo[l[i].Text]), plainExpr(l[:i]), plainExpr(l[i+1:]))
		}
		if weak[0] == "not" && is(l[0], "not") {
			return top(tw(api.ONot), plainExpr(l[1:]))
		}
	}
	if is(l[0], "-", "await", "settle") {
		return top(tw(ofWord[l[0].Text]), plainExpr(l[1:]))
	}
	last := len(l) - 1
	if open := openOf(l); is(l[last], "]") && open > 0 {
		return top(tw(api.OAt), plainExpr(l[:open]), plainExpr(l[open+1:last]))
	}
	return plainPrim(l, last)
}

func plainPrim(l []api.Token, last int) api.Tree {
	switch x := l[0]; {
	case x.Kind == api.TInt:
		return api.Tree{{Op: api.OInt, Int: x.Int}}
	case x.Kind == api.TText:
		return api.Tree{tw(api.OText, x.Text)}
	case isOwn(x):
		return api.Tree{tw(api.OName, x.Text)}
	case x.Text == "[":
		return top(tw(api.OList), plainExprs(l[1:last])...)
	case x.Text == "(":
		return plainExpr(l[1:last])
	case x.Text == "fork":
		return top(tw(api.OFork), plainBlock(l[1:]))
	case x.Text == "take":
		return api.Tree{tw(api.OTake, l[1].Text)}
	case x.Text == "call", x.Text == "child":
		return top(tw(ofWord[x.Text], l[1].Text), plainExprs(l[3:last])...)
	case last > 0:
		return top(tw(ofWord[x.Text]), plainExprs(l[2:last])...)
	}
	return api.Tree{tw(ofWord[l[0].Text])}
}

// plainBlock reads what begins with { and ends with }.
func plainBlock(l []api.Token) api.Tree {
	l = l[1 : len(l)-1]
	var begins []int
	for _, i := range outside(l) {
		set := isOwn(l[i]) && i+1 < len(l) && is(l[i+1], "=") && (i == 0 || !is(l[i-1], "let"))
		if set || is(l[i], "let", "if", "while", "return", "fail", "sleep", "do") {
			begins = append(begins, i)
		}
	}
	var stmts []api.Tree
	for i, begin := range begins {
		end := len(l)
		if i+1 < len(begins) {
			end = begins[i+1]
		}
		stmts = append(stmts, plainStmt(l[begin:end]))
	}
	return top(tw(api.OBlock), stmts...)
}

func plainStmt(l []api.Token) api.Tree {
	switch {
	case is(l[0], "let"):
		return top(tw(api.OLet, l[1].Text), plainExpr(l[3:]))
	case isOwn(l[0]):
		return top(tw(api.OSet, l[0].Text), plainExpr(l[2:]))
	case !is(l[0], "if", "while"):
		return top(tw(ofWord[l[0].Text]), plainExpr(l[1:]))
	}
	op := byte(api.OIf)
	if is(l[0], "while") {
		op = api.OWhile
	}
	open := openOf(l)
	blocks := []api.Tree{plainBlock(l[open:])}
	if is(l[open-1], "else") {
		l = l[:open-1]
		open = openOf(l)
		blocks = []api.Tree{plainBlock(l[open:]), blocks[0]}
	}
	return top(tw(op), append([]api.Tree{plainExpr(l[1:open])}, blocks...)...)
}

func plainFlow(l []api.Token) api.Tree {
	var parts []api.Tree
	end := slices.IndexFunc(l, func(x api.Token) bool { return is(x, ")") })
	for _, p := range apart(l[3:end]) {
		parts = append(parts, api.Tree{tw(api.OParam, p[0].Text)})
	}
	return top(tw(api.OFlow, l[1].Text), append(parts, plainBlock(l[end+1:]))...)
}
