package parse_test

import (
	"slices"
	"strings"

	"prompter/api"
	"prompter/token"
	"prompter/tree"
)

// rules is the grammar as the chapter has it.
const rules = `
flow   = "flow" OWN "(" [ OWN { "," OWN } ] ")" block
block  = "{" { stmt } "}"
stmt   = "let" OWN "=" expr | OWN "=" expr | "if" expr block [ "else" block ] | "while" expr block
       | "return" expr | "fail" expr | "sleep" expr | "do" expr
expr   = and { "or" and }
and    = not { "and" not }
not    = "not" not | cmp
cmp    = sum [ ( "==" | "!=" | "<" | "<=" ) sum ]
sum    = term { ( "+" | "-" ) term }
term   = pre { ( "*" | "/" | "%" ) pre }
pre    = "-" pre | "await" pre | "settle" pre | post
post   = prim { "[" expr "]" }
prim   = "none" | "true" | "false" | "version" | INT | TEXT | OWN | "[" exprs "]" | "(" expr ")"
       | "len" "(" expr ")" | "num" "(" expr "," expr ")" | "re" "(" expr ")" | "im" "(" expr ")" | "conj" "(" expr ")"
       | "timer" "(" expr ")" | "call" OWN "(" exprs ")" | "child" OWN "(" exprs ")" | "fork" block | "take" OWN
exprs  = [ expr { "," expr } ]
`

// item is something that a rule asks for: a mark, a rule, or one of some ways.
type item struct {
	mark, rule  string
	ways        [][]item
	maybe, many bool // not at all, too; any number of times
}

type grammar map[string][][]item

// read is the grammar that its text tells.
func read(text string) grammar {
	g := grammar{}
	words := strings.Fields(text)
	for i := len(words) - 1; i > 0; i-- {
		if words[i] == "=" {
			ways, rest := readWays(words[i+1:])
			if len(rest) > 0 {
				panic("the rule " + words[i-1] + " does not end")
			}
			g[words[i-1]] = ways
			i--
			words = words[:i]
		}
	}
	return g
}

// readWays reads ways up to the bracket that ends them, or to the end.
func readWays(words []string) ([][]item, []string) {
	ways := [][]item{nil}
	for len(words) > 0 {
		w := words[0]
		words = words[1:]
		x := item{}
		switch {
		case w == "|":
			ways = append(ways, nil)
			continue
		case strings.Contains("}])", w):
			return ways, words
		case strings.Contains("{[(", w):
			x.maybe, x.many = w == "[", w == "{"
			x.ways, words = readWays(words)
		case w[0] == '"':
			x.mark = strings.Trim(w, `"`)
		case w == strings.ToUpper(w):
			x.mark = w
		default:
			x.rule = w
		}
		ways[len(ways)-1] = append(ways[len(ways)-1], x)
	}
	return ways, nil
}

// of is what x may be.
func (g grammar) of(x item) [][]item {
	if x.rule != "" {
		return g[x.rule]
	}
	return x.ways
}

// coming is what is still to come: x, and then the rest.
type coming struct {
	x    item
	rest *coming
}

// first tells each mark that may come first, and what comes behind it; an empty one where the end may come.
func (g grammar) first(c *coming, tell func(mark string, rest *coming)) {
	if c == nil {
		tell("", nil)
		return
	}
	if c.x.mark != "" {
		tell(c.x.mark, c.rest)
		return
	}
	if c.x.maybe || c.x.many {
		g.first(c.rest, tell)
	}
	for _, way := range g.of(c.x) {
		all := c.rest
		if c.x.many {
			all = c
		}
		for _, x := range slices.Backward(way) {
			all = &coming{x, all}
		}
		g.first(all, tell)
	}
}

// goesOn is with how many of these marks a thing goes on that the rule tells; and whether it may end there.
func (g grammar) goesOn(rule string, marks []string) (n int, ends bool) {
	now := []*coming{{x: item{rule: rule}}}
	for ; ; n++ {
		var then []*coming
		ends = false
		for _, c := range now {
			g.first(c, func(mark string, rest *coming) {
				ends = ends || mark == ""
				if mark != "" && n < len(marks) && mark == marks[n] {
					then = append(then, rest)
				}
			})
		}
		if n == len(marks) || len(then) == 0 {
			return n, ends
		}
		now = then
	}
}

// marksOf is what the grammar calls these tokens.
func marksOf(l []api.Token) (marks []string) {
	for _, x := range l {
		switch {
		case x.Kind == api.TInt:
			marks = append(marks, "INT")
		case x.Kind == api.TText:
			marks = append(marks, "TEXT")
		case x.Kind == api.TWord && !token.Keyword(x.Text):
			marks = append(marks, "OWN")
		default:
			marks = append(marks, x.Text)
		}
	}
	return marks
}

var chapter = read(rules)

// told is what the chapter says of s, of which that rule is asked for.
func told(rule, s string) (api.Tree, int, api.Errno) {
	l, at, e := token.All(s)
	if e != api.OK {
		return nil, at, e
	}
	n, ends := chapter.goesOn(rule, marksOf(l))
	switch {
	case n < len(l):
		return nil, l[n].At, api.ErrText
	case !ends:
		return nil, len(s), api.ErrShort
	}
	t := plainExpr
	if rule == "flow" {
		t = plainFlow
	}
	x := t(l)
	if _, e := tree.Check(x); e != api.OK {
		return nil, 0, api.ErrLong
	}
	return x, 0, api.OK
}
