package parse_test

import (
	"maps"
	"slices"
	"strings"
	"testing"

	"prompter/api"
	"prompter/token"
	"prompter/tree"
)

// draws are numbers that a short rule strews.
type draws uint64

func (d *draws) below(n int) int {
	*d = 6364136223846793005**d + 1442695040888963407
	return int(*d>>33) % n
}

// one is one of these.
func (d *draws) one(of ...string) string {
	return of[d.below(len(of))]
}

// shortWays are the ways that end soonest, of the rules that would else go on forever.
var shortWays = map[string]int{"not": 1, "pre": 3, "prim": 0}

// marks puts strewn marks of what x asks for behind l; from most marks on as few as there may be.
func (d *draws) marks(l []string, x item, most int) []string {
	if x.mark != "" {
		return append(l, x.mark)
	}
	ways := chapter.of(x)
	for n := 0; ; n++ {
		more := n == 0 && !x.maybe && !x.many // how often it must be
		if !more && (len(l) >= most || n > 0 && !x.many || d.below(3) > 0) {
			return l
		}
		way := ways[d.below(len(ways))]
		if i, is := shortWays[x.rule]; is && (len(l) >= most || d.below(2) == 0 && x.rule != "prim") {
			way = ways[i]
		}
		for _, y := range way {
			l = d.marks(l, y, most)
		}
	}
}

// words are marks as words, numbers, texts and signs.
func (d *draws) words(marks []string) []string {
	l := slices.Clone(marks)
	for i, m := range l {
		switch m {
		case "OWN":
			l[i] = d.one("a", "b", "x_1", "lets", "flow_", "a23456789_123456789_1234")
		case "INT":
			l[i] = d.one("0", "1", "10", "9223372036854775807")
		case "TEXT":
			l[i] = d.one(`""`, `"a"`, `"let"`, `"("`, `"\x00\n"`, `"}"`, `"-"`, `"flow"`)
		}
	}
	return l
}

// source is these words with gaps between them.
func (d *draws) source(words []string) string {
	var s strings.Builder
	for _, w := range words {
		s.WriteString(w)
		s.WriteString(d.one(" ", " ", "\n", "  ", "# let (\n", "\n#\n "))
	}
	return s.String()
}

// any is strewn words of that rule.
func (d *draws) any(rule string, most int) []string {
	return d.words(d.marks(nil, item{rule: rule}, d.below(most)))
}

// allMarks are all marks of the grammar.
func allMarks() []string {
	seen := map[string]int{}
	var look func(ways [][]item)
	look = func(ways [][]item) {
		for _, x := range slices.Concat(ways...) {
			if x.mark != "" {
				seen[x.mark]++
			}
			look(x.ways)
		}
	}
	for _, ways := range chapter {
		look(ways)
	}
	return slices.Sorted(maps.Keys(seen))
}

// TestRight holds strewn sources that are right, but that some trees are too deep.
func TestRight(t *testing.T) { // P9.1, P9.3
	d := draws(1)
	seen := map[byte]int{}
	for _, rule := range []string{"flow", "expr"} {
		for range 2000 {
			s := d.source(d.any(rule, 60))
			x, at, e := told(rule, s)
			if at != 0 || e != api.OK && e != api.ErrLong {
				t.Fatalf("%q: %d, %d", s, at, e)
			}
			hold(t, s)
			for _, y := range x {
				seen[y.Op]++
			}
			if e == api.OK {
				isRightAndSpelt(t, rule, s, x)
			}
		}
	}
	for op := range byte(64) {
		if (op >= api.OFlow && op <= api.OBlock || tree.Statement(op) || tree.Expression(op)) && seen[op] < 20 {
			t.Errorf("there were too few twigs of the Op %d: %d", op, seen[op])
		}
	}
}

// isRightAndSpelt fails unless x is a right tree, and that of the spelling of the tokens of s.
func isRightAndSpelt(t *testing.T, rule, s string, x api.Tree) {
	t.Helper()
	if at, e := tree.Check(x); at != 0 || e != api.OK {
		t.Errorf("%s of %q is no right tree: %d, %d", rule, s, at, e)
	}
	l, _, _ := token.All(s)
	spelling, e := token.Spell(l)
	if e != api.OK {
		t.Errorf("the spelling of %q: %d", s, e)
	}
	isTold(t, rule, spelling, x, 0, api.OK)
}

// TestChanged holds strewn sources in which tokens were changed, left out, put in, or cut off.
func TestChanged(t *testing.T) { // P9.1
	d := draws(2)
	marks := allMarks()
	for range 6000 {
		words := d.any(d.one("flow", "expr", "stmt"), 40)
		for range 1 + d.below(2) {
			at := d.below(len(words))
			switch d.below(6) {
			case 0:
				words[at] = d.words([]string{d.one(marks...)})[0]
			case 1:
				words = slices.Insert(words, at, d.words([]string{d.one(marks...)})...)
			case 2:
				words = slices.Insert(words, at, d.any(d.one("expr", "stmt", "block", "exprs"), 9)...)
			case 3:
				words = append(slices.Delete(words, at, at+1), d.any("prim", 1)...)
			case 4:
				other := d.below(len(words))
				words[at], words[other] = words[other], words[at]
			default:
				words = words[:at+1]
			}
		}
		hold(t, d.source(words))
	}
}

// TestCut holds strewn sources up to each of their tokens.
func TestCut(t *testing.T) { // P9.1
	d := draws(3)
	for range 300 {
		for _, rule := range []string{"flow", "expr"} {
			words := d.any(rule, 30)
			for n := range words {
				s := d.source(words[:n])
				if _, at, e := told(rule, s); e == api.ErrShort && at != len(s) || e == api.ErrText {
					t.Fatalf("the beginning %q of what is right: %d, %d", s, at, e)
				}
				hold(t, s)
			}
		}
	}
}

// TestShort holds all short sources with which something goes on, and each token behind these, behind some beginnings.
func TestShort(t *testing.T) { // P9.1
	marks := allMarks()
	d := draws(4)
	words := map[string]string{"OWN": "a", "INT": "1", "TEXT": `"a"`}
	for _, m := range marks {
		if words[m] == "" {
			words[m] = m
		}
	}
	var all func(rule string, ahead []string, more int)
	all = func(rule string, ahead []string, more int) {
		for _, m := range marks {
			l := append(slices.Clip(ahead), words[m])
			s := d.source(l)
			holdAs(t, rule, s)
			if more > 1 {
				if _, _, e := told(rule, s); e != api.ErrText {
					all(rule, l, more-1)
				}
			}
		}
	}
	hold(t, "")
	all("expr", nil, 4)
	all("flow", nil, 6)
	for _, ahead := range []string{
		"a", "not a", "a == b", "a + b", "a * b", "- a", "a [ 0 ]", "( a", "[ a", "[ a , b", "num ( a", "call f ( a", "len ( a", "fork { do a", "a < ( b", "a [ b", "take a", "[ ]", "fork { }",
	} {
		all("expr", strings.Fields(ahead), 2)
	}
	for _, ahead := range []string{
		"flow f ( ) {", "flow f ( ) { }", "flow f ( ) { a", "flow f ( ) { a = b", "flow f ( ) { let a = b", "flow f ( ) { if a", "flow f ( ) { if a { }", "flow f ( ) { if a { } else", "flow f ( ) { if a { } else { }", "flow f ( ) { while a", "flow f ( ) { while a { }",
		"flow f ( ) { do a < b", "flow f ( ) { do fork {", "flow f ( ) { do fork { }", "flow f ( ) { do a b", "flow f ( a", "flow f ( a , b", "flow f ( ) { if ( a )", "flow f ( ) { if a { if b { } }",
	} {
		all("flow", strings.Fields(ahead), 2)
	}
}

// TestAnyBytes holds strewn bytes, and sources in which bytes were changed: the fault of the tokens goes ahead.
func TestAnyBytes(t *testing.T) { // P9.1
	d := draws(5)
	for range 4000 {
		b := []byte(d.source(d.any(d.one("flow", "expr"), 12)))
		for range 1 + d.below(3) {
			b[d.below(len(b))] = "\"\\\n!\x00\xffA0a_(=# "[d.below(14)]
		}
		hold(t, string(b))
		for i := range b {
			b[i] = byte(d.below(256))
		}
		hold(t, string(b))
	}
	for s, at := range map[string]int{"let 01": 5, ") ?": 2, "a b c A": 6, "1 2 a.b": 5, `"\q" let`: 2, "flow flow !a": 11} {
		isFault(t, "expr", s, at, api.ErrText)
		isFault(t, "flow", s, at, api.ErrText)
	}
	for _, s := range []string{`let "a`, ") !", `flow f() } "\`, "(!"} {
		isFault(t, "expr", s, len(s), api.ErrShort)
		isFault(t, "flow", s, len(s), api.ErrShort)
	}
	isFault(t, "expr", "let aaaaaaaaaabbbbbbbbbbccccc", 4, api.ErrLong)
	isFault(t, "flow", ") 9223372036854775808", 2, api.ErrLong)
}
