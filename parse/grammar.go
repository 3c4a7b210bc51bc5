package parse

import "prompter/api"

// makes are the Ops of what words and signs make. (The - is the one that stands between two.)
var makes = [...]struct {
	mark string
	op   byte
}{
	{"return", api.OReturn}, {"fail", api.OFail}, {"sleep", api.OSleep}, {"do", api.ODrop},
	{"or", api.OOr}, {"and", api.OAnd},
	{"==", api.OEq}, {"!=", api.ONe}, {"<", api.OLt}, {"<=", api.OLe},
	{"+", api.OAdd}, {"-", api.OSub}, {"*", api.OMul}, {"/", api.ODiv}, {"%", api.OMod},
	{"await", api.OAwait}, {"settle", api.OSettle},
	{"none", api.ONone}, {"true", api.OTrue}, {"false", api.OFalse}, {"version", api.OVersion},
	{"len", api.OLen}, {"re", api.ORe}, {"im", api.OIm}, {"conj", api.OConj}, {"timer", api.OTimer},
	{"call", api.OCall}, {"child", api.OChild},
}

// opOf is the Op of what a word or a sign makes.
func opOf(mark string) byte {
	for _, m := range makes {
		if m.mark == mark {
			return m.op
		}
	}
	return 0
}

// The grammar's rules, each as a method that reads what the rule of its name tells.

func (r *reader) flow() chain {
	r.want("flow")
	name := r.own()
	params := r.list("(", r.param, ")")
	return params.then(r.block()).under(api.Twig{Op: api.OFlow, Text: name})
}

func (r *reader) param() chain {
	return leaf(api.Twig{Op: api.OParam, Text: r.own()})
}

func (r *reader) block() chain {
	return r.between("{", r.stmts, "}").under(api.Twig{Op: api.OBlock})
}

func (r *reader) stmts() (c chain) {
	for r.mark() != "}" {
		c = c.then(r.stmt())
	}
	return c
}

func (r *reader) stmt() chain {
	switch m := r.mark(); m {
	case "let":
		r.want("let")
		return r.set(api.OLet)
	case "if":
		return r.choice()
	case "while":
		r.want("while")
		condition := r.expr()
		return condition.then(r.block()).under(api.Twig{Op: api.OWhile})
	case "return", "fail", "sleep", "do":
		r.want(m)
		return r.expr().under(api.Twig{Op: opOf(m)})
	}
	return r.set(api.OSet)
}

// set reads a name and the value that a variable of that name gets.
func (r *reader) set(op byte) chain {
	name := r.own()
	r.want("=")
	return r.expr().under(api.Twig{Op: op, Text: name})
}

// choice reads an if.
func (r *reader) choice() chain {
	r.want("if")
	c := r.expr()
	c = c.then(r.block())
	if r.mark() == "else" {
		r.want("else")
		c = c.then(r.block())
	}
	return c.under(api.Twig{Op: api.OIf})
}

func (r *reader) expr() chain {
	return r.row(r.and, "or")
}

func (r *reader) and() chain {
	return r.row(r.not, "and")
}

func (r *reader) not() chain {
	if r.mark() != "not" {
		return r.cmp()
	}
	r.want("not")
	return r.not().under(api.Twig{Op: api.ONot})
}

func (r *reader) cmp() chain {
	c := r.sum()
	switch m := r.mark(); m {
	case "==", "!=", "<", "<=":
		r.want(m)
		c = c.then(r.sum()).under(api.Twig{Op: opOf(m)})
	}
	return c
}

func (r *reader) sum() chain {
	return r.row(r.term, "+", "-")
}

func (r *reader) term() chain {
	return r.row(r.pre, "*", "/", "%")
}

func (r *reader) pre() chain {
	switch m := r.mark(); m {
	case "-":
		r.want("-")
		return r.pre().under(api.Twig{Op: api.ONeg})
	case "await", "settle":
		r.want(m)
		return r.pre().under(api.Twig{Op: opOf(m)})
	}
	return r.post()
}

func (r *reader) post() chain {
	c := r.prim()
	for r.mark() == "[" {
		c = c.then(r.between("[", r.expr, "]")).under(api.Twig{Op: api.OAt})
	}
	return c
}

func (r *reader) prim() chain {
	switch x := r.ahead(); x.Kind {
	case api.TInt:
		r.place++
		return leaf(api.Twig{Op: api.OInt, Int: x.Int})
	case api.TText:
		r.place++
		return leaf(api.Twig{Op: api.OText, Text: x.Text})
	}
	switch m := r.mark(); m {
	case "[":
		return r.list("[", r.expr, "]").under(api.Twig{Op: api.OList})
	case "(":
		return r.between("(", r.expr, ")")
	case "none", "true", "false", "version":
		r.want(m)
		return leaf(api.Twig{Op: opOf(m)})
	case "len", "re", "im", "conj", "timer":
		r.want(m)
		return r.between("(", r.expr, ")").under(api.Twig{Op: opOf(m)})
	case "num":
		r.want("num")
		return r.between("(", r.two, ")").under(api.Twig{Op: api.ONum})
	case "call", "child":
		r.want(m)
		name := r.own()
		return r.list("(", r.expr, ")").under(api.Twig{Op: opOf(m), Text: name})
	case "fork":
		r.want("fork")
		return r.block().under(api.Twig{Op: api.OFork})
	case "take":
		r.want("take")
		return leaf(api.Twig{Op: api.OTake, Text: r.own()})
	}
	return leaf(api.Twig{Op: api.OName, Text: r.own()})
}

// two reads two expressions with a comma between them.
func (r *reader) two() chain {
	c := r.expr()
	r.want(",")
	return c.then(r.expr())
}
