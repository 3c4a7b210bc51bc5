package parse

import (
	"slices"

	"prompter/api"
	"prompter/token"
)

// reader goes through tokens from the first one on, and gives up at the first with which nothing that it reads goes on.
type reader struct {
	tokens []api.Token
	place  int // of the token that comes next
	end    int // where the source ends
}

// giveUp ends the reading, from however deep inside: what comes next can't stand there, or must not lack.
func (r *reader) giveUp() {
	if r.place == len(r.tokens) {
		panic(fault{api.ErrShort, r.end})
	}
	panic(fault{api.ErrText, r.tokens[r.place].At})
}

// ahead is the token that comes next; one of no kind at the end.
func (r *reader) ahead() api.Token {
	if r.place == len(r.tokens) {
		return api.Token{}
	}
	return r.tokens[r.place]
}

// mark is the word or the sign that comes next; empty if neither does. (A text may say the same: it is none.)
func (r *reader) mark() string {
	if x := r.ahead(); x.Kind == api.TWord || x.Kind == api.TSign {
		return x.Text
	}
	return ""
}

// want takes that word or sign.
func (r *reader) want(mark string) {
	if r.mark() != mark {
		r.giveUp()
	}
	r.place++
}

// own takes a word of one's own.
func (r *reader) own() string {
	x := r.ahead()
	if x.Kind != api.TWord || token.Keyword(x.Text) {
		r.giveUp()
	}
	r.place++
	return x.Text
}

// between reads what stands between two signs.
func (r *reader) between(open string, what func() chain, end string) chain {
	r.want(open)
	c := what()
	r.want(end)
	return c
}

// list reads any number of parts between two signs, a comma between each two of them.
func (r *reader) list(open string, part func() chain, end string) (c chain) {
	r.want(open)
	if r.mark() != end {
		c = part()
		for r.mark() == "," {
			r.want(",")
			c = c.then(part())
		}
	}
	r.want(end)
	return c
}

// row reads parts with one of these marks between each two of them, taken from the left.
func (r *reader) row(part func() chain, marks ...string) chain {
	c := part()
	for slices.Contains(marks, r.mark()) {
		m := r.mark()
		r.want(m)
		c = c.then(part()).under(api.Twig{Op: opOf(m)})
	}
	return c
}
