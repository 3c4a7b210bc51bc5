package show

import "prompter/api"

// writer goes through a right tree, twig by twig, and tells its tokens.
type writer struct {
	rest   api.Tree // what is not told yet
	tokens []api.Token
}

// next takes the twig that comes next.
func (w *writer) next() api.Twig {
	x := w.rest[0]
	w.rest = w.rest[1:]
	return x
}

// tell tells tokens of that kind.
func (w *writer) tell(kind byte, texts ...string) {
	for _, s := range texts {
		w.tokens = append(w.tokens, api.Token{Kind: kind, Text: s})
	}
}

// words tells words, the language's and one's own.
func (w *writer) words(texts ...string) {
	w.tell(api.TWord, texts...)
}

// signs tells signs.
func (w *writer) signs(texts ...string) {
	w.tell(api.TSign, texts...)
}

// number tells a number.
func (w *writer) number(x int64) {
	w.tokens = append(w.tokens, api.Token{Kind: api.TInt, Int: x})
}

// mark tells the word or the sign of that Op.
func (w *writer) mark(op byte) {
	for _, m := range marks {
		if m.op == op {
			w.tell(m.kind, m.text)
		}
	}
}

// list tells so many parts between two signs, a comma between each two of them.
func (w *writer) list(open string, parts int, part func(), end string) {
	w.signs(open)
	defer w.signs(end)
	for i := range parts {
		if i > 0 {
			w.signs(",")
		}
		part()
	}
}
