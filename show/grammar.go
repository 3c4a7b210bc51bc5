package show

import "prompter/api"

// marks are the words and signs of Ops that have just one.
var marks = [...]struct {
	op, kind byte
	text     string
}{
	{api.OReturn, api.TWord, "return"}, {api.OFail, api.TWord, "fail"}, {api.OSleep, api.TWord, "sleep"}, {api.ODrop, api.TWord, "do"},
	{api.ONone, api.TWord, "none"}, {api.OTrue, api.TWord, "true"}, {api.OFalse, api.TWord, "false"}, {api.OVersion, api.TWord, "version"},
	{api.OOr, api.TWord, "or"}, {api.OAnd, api.TWord, "and"}, {api.ONot, api.TWord, "not"},
	{api.OEq, api.TSign, "=="}, {api.ONe, api.TSign, "!="}, {api.OLt, api.TSign, "<"}, {api.OLe, api.TSign, "<="},
	{api.OAdd, api.TSign, "+"}, {api.OSub, api.TSign, "-"}, {api.OMul, api.TSign, "*"}, {api.ODiv, api.TSign, "/"}, {api.OMod, api.TSign, "%"},
	{api.ONeg, api.TSign, "-"}, {api.OAwait, api.TWord, "await"}, {api.OSettle, api.TWord, "settle"},
	{api.ONum, api.TWord, "num"}, {api.OLen, api.TWord, "len"}, {api.ORe, api.TWord, "re"}, {api.OIm, api.TWord, "im"}, {api.OConj, api.TWord, "conj"},
	{api.OTimer, api.TWord, "timer"}, {api.OCall, api.TWord, "call"}, {api.OChild, api.TWord, "child"}, {api.OTake, api.TWord, "take"},
}

// The widths of expressions, one for each rule of the grammar: where that rule is asked for, what has a lower one may stand in brackets alone.
const (
	ofOr = 1 + iota
	ofAnd
	ofNot
	ofCmp
	ofSum
	ofTerm
	ofPre
	ofPost
	ofPrim
)

// width is how wide an expression of that Op is.
func width(op byte) int {
	switch op {
	case api.OOr:
		return ofOr
	case api.OAnd:
		return ofAnd
	case api.ONot:
		return ofNot
	case api.OEq, api.ONe, api.OLt, api.OLe:
		return ofCmp
	case api.OAdd, api.OSub:
		return ofSum
	case api.OMul, api.ODiv, api.OMod:
		return ofTerm
	case api.ONeg, api.OAwait, api.OSettle:
		return ofPre
	case api.OAt:
		return ofPost
	}
	return ofPrim
}

// What follows takes the tree that comes next, and tells the tokens from which the grammar's rule of that name reads it.

func (w *writer) flow() {
	x := w.next()
	w.words("flow", x.Text)
	w.list("(", x.Kids-1, w.param, ")")
	w.block()
}

func (w *writer) param() {
	w.words(w.next().Text)
}

func (w *writer) block() {
	w.signs("{")
	defer w.signs("}")
	for range w.next().Kids {
		w.stmt()
	}
}

func (w *writer) stmt() {
	switch x := w.next(); x.Op {
	case api.OLet:
		w.words("let")
		w.set(x.Text)
	case api.OSet:
		w.set(x.Text)
	case api.OIf:
		w.words("if")
		w.expr()
		w.block()
		if x.Kids == 3 {
			w.words("else")
			w.block()
		}
	case api.OWhile:
		w.words("while")
		w.expr()
		w.block()
	default:
		w.mark(x.Op)
		w.expr()
	}
}

// set tells a name and the value that a variable of that name gets.
func (w *writer) set(name string) {
	w.words(name)
	w.signs("=")
	w.expr()
}

func (w *writer) expr() {
	w.narrow(ofOr)
}

// narrow tells an expression at a place that asks for that width: one of less stands in brackets there.
func (w *writer) narrow(asked int) {
	x := w.next()
	own := width(x.Op)
	if own < asked {
		w.signs("(")
		defer w.signs(")")
	}
	switch own {
	case ofOr, ofAnd, ofSum, ofTerm: // taken from the left: what the same rule reads needs brackets behind the mark alone
		w.narrow(own)
		w.mark(x.Op)
		w.narrow(own + 1)
	case ofCmp:
		w.narrow(own + 1)
		w.mark(x.Op)
		w.narrow(own + 1)
	case ofNot, ofPre:
		w.mark(x.Op)
		w.narrow(own)
	case ofPost:
		w.narrow(own)
		w.list("[", 1, w.expr, "]")
	default:
		w.prim(x)
	}
}

// prim tells an expression that never needs brackets, and whose first twig was taken already.
func (w *writer) prim(x api.Twig) {
	switch x.Op {
	case api.OInt:
		w.number(x.Int)
	case api.OText:
		w.tell(api.TText, x.Text)
	case api.OName:
		w.words(x.Text)
	case api.OList:
		w.list("[", x.Kids, w.expr, "]")
	case api.OFork:
		w.words("fork")
		w.block()
	case api.OTake:
		w.words("take", x.Text)
	case api.OCall, api.OChild:
		w.mark(x.Op)
		w.words(x.Text)
		w.list("(", x.Kids, w.expr, ")")
	case api.ONone, api.OTrue, api.OFalse, api.OVersion:
		w.mark(x.Op)
	default: // a word of the language, and what it is asked of
		w.mark(x.Op)
		w.list("(", x.Kids, w.expr, ")")
	}
}
