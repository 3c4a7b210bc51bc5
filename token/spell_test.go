package token_test

import (
	"fmt"
	"math"
	"strings"
	"testing"

	"prompter/api"
	"prompter/token"
)

// spelt is what a token is spelt as, as the document tells it.
func spelt(t api.Token) string {
	switch t.Kind {
	case 2:
		return fmt.Sprint(t.Int)
	case 3:
		var s strings.Builder
		for _, c := range []byte(t.Text) {
			switch {
			case c == 34:
				s.WriteString(`\"`)
			case c == 92:
				s.WriteString(`\\`)
			case c == 10:
				s.WriteString(`\n`)
			case 32 <= c && c <= 126:
				s.WriteByte(c)
			default:
				fmt.Fprintf(&s, `\x%02x`, c)
			}
		}
		return `"` + s.String() + `"`
	}
	return t.Text
}

// spelling is what tokens are spelt as, a blank between.
func spelling(l []api.Token) string {
	var parts []string
	for _, t := range l {
		parts = append(parts, spelt(t))
	}
	return strings.Join(parts, " ")
}

// isSpelt fails unless Spell tells that.
func isSpelt(t *testing.T, l []api.Token, s string, e api.Errno) {
	t.Helper()
	if gotS, gotE := token.Spell(l); gotS != s || gotE != e {
		t.Errorf("Spell of %.200s (%d tokens): %.80q (%d bytes), %d, not %.80q (%d bytes), %d", fmt.Sprint(l), len(l), gotS, len(gotS), gotE, s, len(s), e)
	}
}

func TestSpell(t *testing.T) { // P7.2
	for _, c := range []struct {
		l []api.Token
		s string
	}{
		{nil, ""},
		{[]api.Token{}, ""},
		{tokens(word("a", 0), sign("(", 1), word("b", 3), sign(")", 4)), "a ( b )"},
		{tokens(word("a", 5)), "a"},
		{tokens(text("", 0)), `""`},
		{tokens(text("", 0), text("", 0)), `"" ""`},
		{tokens(number(0, 0), number(0, 0)), "0 0"},
		{tokens(number(math.MaxInt64, 0)), "9223372036854775807"},
		{tokens(word("a", 0), sign("(", 0), number(7, 0), text("\"\\\n\x00", 0)), `a ( 7 "\"\\\n\x00"`},
		{tokens(text(" ~!#'a\t\r\x1f\x7f\x80\xff", 0)), `" ~!#'a\x09\x0d\x1f\x7f\x80\xff"`},
		{tokens(text("é\\n", 0)), `"\xc3\xa9\\n"`},
		{tokens(text("# a\n", 0), word("settle", 0)), `"# a\n" settle`},
		{tokens(sign("=", 0), sign("=", 0), sign("==", 0)), "= = =="},
		{tokens(sign("-", 0), number(1, 0), sign("<", 0), sign("=", 0)), "- 1 < ="},
	} {
		isSpelt(t, c.l, c.s, api.OK)
		isSpelt(t, c.l, spelling(c.l), api.OK)
	}
	for c := range 256 {
		for _, l := range [][]api.Token{{text(string([]byte{byte(c)}), 0)}, {text("a"+string([]byte{byte(c)})+"0", 3), word("b", 0)}} {
			isSpelt(t, l, spelling(l), api.OK)
		}
	}
}

func TestSpellWherever(t *testing.T) { // P7.2
	for _, at := range []int{0, 1, 5, -1, math.MaxInt, math.MinInt, api.MaxSource + 1} {
		isSpelt(t, tokens(word("let", at), word("x", at), sign("=", at), number(1, at), text("y", at)), `let x = 1 "y"`, api.OK)
		isSpelt(t, tokens(word("let", at), word("X", at)), "", api.ErrShape)
	}
}

// wrongTokens are tokens that All does not tell.
func wrongTokens() []api.Token {
	l := []api.Token{
		{}, {Int: 1}, {Text: "a"}, {At: 3},
		{Kind: 1}, word("A", 0), word("1", 0), word("_a", 0), word("a b", 0), word(" a", 0), word("a ", 0), word("a-b", 0), word("aB", 0), word("(", 0), word("é", 0), word("a\n", 0), word("a\x00", 0),
		word(strings.Repeat("a", 25), 0), word(strings.Repeat("a", 5000), 0), {Kind: 1, Text: "a", Int: 1}, {Kind: 1, Text: "a", Int: -1}, {Kind: 1, Int: 1},
		number(-1, 0), number(math.MinInt64, 0), number(-math.MaxInt64, 0), {Kind: 2, Int: 1, Text: "1"}, {Kind: 2, Text: "a"}, {Kind: 2, Int: 7, Text: " "},
		text(strings.Repeat("a", 4096), 0), text(strings.Repeat("\x00", 4096), 0), text(strings.Repeat("a", 1<<20), 0), {Kind: 3, Text: "a", Int: 1}, {Kind: 3, Int: -1},
		sign("", 0), sign("!", 0), sign("= =", 0), sign("===", 0), sign("=<", 0), sign(">", 0), sign(">=", 0), sign("()", 0), sign(" (", 0), sign("( ", 0), sign("a", 0), sign("0", 0), sign("\"", 0), sign("#", 0), sign("+-", 0), sign(";", 0), sign(".", 0), sign("<=<", 0), sign("!= ", 0),
		{Kind: 4, Text: "(", Int: 1}, {Kind: 4, Text: "==", Int: -1}, {Kind: 4, Int: 1},
	}
	for kind := 5; kind < 256; kind++ {
		l = append(l, api.Token{Kind: byte(kind)}, api.Token{Kind: byte(kind), Text: "a"}, api.Token{Kind: byte(kind), Int: 1}, api.Token{Kind: byte(kind), Text: "("})
	}
	return l
}

func TestSpellOfWrongTokens(t *testing.T) { // P7.2
	long := make([]api.Token, 9000)
	for i := range long {
		long[i] = word("a", 0)
	}
	isSpelt(t, long, "", api.ErrLong)
	for _, w := range wrongTokens() {
		isSpelt(t, tokens(w), "", api.ErrShape)
		isSpelt(t, tokens(w, word("a", 0), sign("(", 0)), "", api.ErrShape)
		isSpelt(t, tokens(word("a", 0), w, sign("(", 0)), "", api.ErrShape)
		isSpelt(t, tokens(word("a", 0), sign("(", 0), number(1, 0), text("b", 0), w), "", api.ErrShape)
		isSpelt(t, append(long[:len(long):len(long)], w), "", api.ErrShape)
	}
}

// TestSpellOfAllThatAreShort holds each kind of token with each short text against what All tells of its spelling.
func TestSpellOfAllThatAreShort(t *testing.T) { // P7.2
	held := func(s string) {
		for _, x := range []api.Token{word(s, 0), sign(s, 0), {Kind: 2, Text: s}, {Kind: 3, Text: s, Int: 1}} {
			if l, _, e := read(spelt(x)); e == api.OK && len(l) == 1 && l[0] == x {
				isSpelt(t, tokens(x), spelt(x), api.OK)
			} else {
				isSpelt(t, tokens(x), "", api.ErrShape)
			}
		}
	}
	for x := range 1 << 16 {
		held(string([]byte{byte(x >> 8), byte(x)}))
		if x < 256 {
			held(string([]byte{byte(x)}))
		}
	}
	all(4, []string{"=", "!", "<", "a", "_", "0", "A"}, held)
	for n := range 40 {
		held(strings.Repeat("a", n))
		held("z" + strings.Repeat("_", n))
		held("z" + strings.Repeat("0", n) + "-")
	}
}

func TestSpellOfMuch(t *testing.T) { // P7.2
	for n := 4090; n <= 4095; n++ {
		for _, said := range []string{"a", "\n", "\x00", "\""} {
			l := tokens(text(strings.Repeat(said, n), 0))
			isSpelt(t, l, spelling(l), api.OK)
		}
	}
	for _, last := range []api.Token{word("a", 0), number(math.MaxInt64, 0), text("", 0), text("\x00\n", 0), sign("==", 0), word(strings.Repeat("a", 24), 0)} {
		for n := 8170; n < 8200; n++ {
			l := append(make([]api.Token, 0, n+1), last)
			for range n {
				l = append(l, sign("+", 0))
			}
			for range 2 {
				if s := spelling(l); len(s) <= 16384 {
					isSpelt(t, l, s, api.OK)
				} else {
					isSpelt(t, l, "", api.ErrLong)
				}
				l[0], l[n] = l[n], l[0]
			}
		}
	}
	signs := make([]api.Token, 8193)
	for i := range signs {
		signs[i] = sign("(", 0)
	}
	isSpelt(t, signs[:8192], strings.Repeat("( ", 8192)[:16383], api.OK)
	isSpelt(t, signs, "", api.ErrLong)
	signs[0] = sign("==", 0)
	isSpelt(t, signs[:8192], "== "+strings.Repeat("( ", 8191)[:16381], api.OK)
	isSpelt(t, append(signs[:8191:8191], sign("<=", 0)), "", api.ErrLong)
	isSpelt(t, tokens(text(strings.Repeat("\x00", 4095), 0), sign("(", 0)), `"`+strings.Repeat(`\x00`, 4095)+`" (`, api.OK)
	isSpelt(t, tokens(text(strings.Repeat("\x00", 4095), 0), sign("==", 0)), "", api.ErrLong)
	isSpelt(t, tokens(text(strings.Repeat("\x00", 4095), 0), text(strings.Repeat("\x00", 4095), 0)), "", api.ErrLong)
	isSpelt(t, make([]api.Token, 1<<20), "", api.ErrShape)
}
