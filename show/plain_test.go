package show_test

import (
	"fmt"
	"strconv"
	"strings"

	"prompter/api"
)

// rule is how the chapters say that twigs of one Op are written, and how wide they are. A number stands for the next part, at a place that asks for that width; @ for all parts, with commas between; & for all parts, without; ~ for all parts but the last, with commas; ? for an else, if there is a part left; $ for the text, # for the number, " for the text as a text.
type rule struct {
	width int
	words string
}

// rules are the grammar of chapter 9 and the two tables of chapter 10.
var rules = map[byte]rule{
	api.OFlow:    {9, "flow $ ( ~ ) 1"},
	api.OParam:   {9, "$"},
	api.OBlock:   {9, "{ & }"},
	api.OLet:     {9, "let $ = 1"},
	api.OSet:     {9, "$ = 1"},
	api.OIf:      {9, "if 1 1 ?"},
	api.OWhile:   {9, "while 1 1"},
	api.OReturn:  {9, "return 1"},
	api.OFail:    {9, "fail 1"},
	api.OSleep:   {9, "sleep 1"},
	api.ODrop:    {9, "do 1"},
	api.ONone:    {9, "none"},
	api.OTrue:    {9, "true"},
	api.OFalse:   {9, "false"},
	api.OVersion: {9, "version"},
	api.OInt:     {9, "#"},
	api.OText:    {9, `"`},
	api.OList:    {9, "[ @ ]"},
	api.OName:    {9, "$"},
	api.OOr:      {1, "1 or 2"},
	api.OAnd:     {2, "2 and 3"},
	api.OEq:      {4, "5 == 5"},
	api.ONe:      {4, "5 != 5"},
	api.OLt:      {4, "5 < 5"},
	api.OLe:      {4, "5 <= 5"},
	api.OAdd:     {5, "5 + 6"},
	api.OSub:     {5, "5 - 6"},
	api.OMul:     {6, "6 * 7"},
	api.ODiv:     {6, "6 / 7"},
	api.OMod:     {6, "6 % 7"},
	api.ONum:     {9, "num ( 1 , 1 )"},
	api.OAt:      {8, "8 [ 1 ]"},
	api.ONot:     {3, "not 3"},
	api.ONeg:     {7, "- 7"},
	api.OLen:     {9, "len ( 1 )"},
	api.ORe:      {9, "re ( 1 )"},
	api.OIm:      {9, "im ( 1 )"},
	api.OConj:    {9, "conj ( 1 )"},
	api.OCall:    {9, "call $ ( @ )"},
	api.OChild:   {9, "child $ ( @ )"},
	api.OTimer:   {9, "timer ( 1 )"},
	api.OFork:    {9, "fork 1"},
	api.OAwait:   {7, "await 7"},
	api.OSettle:  {7, "settle 7"},
	api.OTake:    {9, "take $"},
}

// isExpr tells whether the chapter calls a twig of that Op an expression.
func isExpr(op byte) bool {
	_, is := rules[op]
	return is && op >= api.ONone
}

// size is how many twigs the first tree of t has.
func size(t api.Tree) int {
	n := 1
	for range t[0].Kids {
		n += size(t[n:])
	}
	return n
}

// partsOf are the parts of a right tree.
func partsOf(t api.Tree) (parts []api.Tree) {
	for t := t[1:]; len(t) > 0; {
		n := size(t)
		parts = append(parts, t[:n])
		t = t[n:]
	}
	return parts
}

// plain is what a right tree is shown as at a place that asks for that width; all expressions stand in brackets where all is true.
func plain(t api.Tree, asked int, all bool) string {
	parts, words := partsOf(t), []string{}
	for _, w := range strings.Fields(rules[t[0].Op].words) {
		left := len(parts)
		switch w {
		case "@", "&":
			left = 0
		case "~":
			left = 1
		case "?":
			if left == 0 {
				continue
			}
			words = append(words, "else")
			w, left = "1", 0
		default:
			if _, e := strconv.Atoi(w); e == nil {
				left--
			}
		}
		words = append(words, plainWord(t[0], w, parts[:len(parts)-left], all)...)
		parts = parts[len(parts)-left:]
	}
	if isExpr(t[0].Op) && (all || rules[t[0].Op].width < asked) {
		words = append(append([]string{"("}, words...), ")")
	}
	return strings.Join(words, " ")
}

// plainWord is what stands for that word of the rule of x.
func plainWord(x api.Twig, w string, parts []api.Tree, all bool) []string {
	switch {
	case w == "$":
		return []string{x.Text}
	case w == "#":
		return []string{fmt.Sprint(x.Int)}
	case w == `"`:
		return []string{plainText(x.Text)}
	case w == "@", w == "~", w == "&":
		var words []string
		for i, p := range parts {
			if i > 0 && w != "&" {
				words = append(words, ",")
			}
			words = append(words, plain(p, 1, all))
		}
		return words
	case len(parts) == 1:
		asked, _ := strconv.Atoi(w)
		return []string{plain(parts[0], asked, all)}
	}
	return []string{w}
}

// plainText is how a text is spelt.
func plainText(s string) string {
	var said strings.Builder
	for _, c := range []byte(s) {
		switch {
		case c == '\n':
			said.WriteString(`\n`)
		case c == '"' || c == '\\':
			said.WriteString(`\` + string(c))
		case c < 32 || c > 126:
			fmt.Fprintf(&said, `\x%02x`, c)
		default:
			said.WriteByte(c)
		}
	}
	return `"` + said.String() + `"`
}
