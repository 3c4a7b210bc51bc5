package token_test

import (
	"math"
	"slices"
	"strings"
	"testing"

	"prompter/api"
	"prompter/token"
)

// tokens are strewn tokens of all kinds.
func (d *draws) tokens(n int) []api.Token {
	signs := []string{"(", ")", "{", "}", "[", "]", ",", "=", "<", "+", "-", "*", "/", "%", "==", "!=", "<="}
	l := make([]api.Token, n)
	for i := range l {
		switch d.below(5) {
		case 0:
			l[i] = word(words[d.below(len(words))], 0)
		case 1:
			l[i] = word("x"+strings.Repeat("y_0", 8)[:d.below(24)], 0)
		case 2:
			l[i] = number([]int64{0, 1, 10, 42, int64(d.below(1 << 30)), math.MaxInt64}[d.below(6)], 0)
		case 3:
			l[i] = text(d.said(d.below(1+d.below(30))), 0)
		default:
			l[i] = sign(signs[d.below(len(signs))], 0)
		}
	}
	return l
}

// said is n strewn bytes, many of them such as a text asks something of.
func (d *draws) said(n int) string {
	b := make([]byte, n)
	for i := range b {
		b[i] = byte(d.below(256))
		if d.below(2) == 0 {
			b[i] = "\"\\\nx0#a \x00\x7f\x80"[d.below(11)]
		}
	}
	return string(b)
}

// gap is something that stands between tokens and changes nothing.
func (d *draws) gap() string {
	var s strings.Builder
	for range 1 + d.below(4) {
		s.WriteString([]string{" ", "\n", "   ", "#\n", "# a remark, \"(1 \t\xff!\n", "##\n"}[d.below(6)])
	}
	return s.String()
}

// bare is tokens without their places.
func bare(l []api.Token) []api.Token {
	l = slices.Clone(l)
	for i := range l {
		l[i].At = 0
	}
	return l
}

// tells fails unless All tells these tokens of s, each where s has its spelling.
func tells(t *testing.T, s string, l []api.Token) {
	t.Helper()
	got, at, e := token.All(s)
	if !slices.Equal(bare(got), bare(l)) || at != 0 || e != api.OK {
		t.Errorf("All of %.200q: %.300v, %d, %d, not %.300v", s, got, at, e, l)
		return
	}
	end := 0
	for _, x := range got {
		if x.At < end || !strings.HasPrefix(s[x.At:], spelt(x)) {
			t.Errorf("All of %.200q: %v does not begin there", s, x)
		}
		end = x.At + len(spelt(x))
	}
}

func TestSpellingsAreTold(t *testing.T) { // P7.2, P7.5
	d := draws(2)
	for n := range 3000 {
		l := d.tokens(n % 60)
		s, e := token.Spell(l)
		if s != spelling(l) || e != api.OK {
			t.Errorf("Spell of %v: %.200q, %d", l, s, e)
		}
		tells(t, s, l)
		again, e := token.Spell(l)
		if again != s || e != api.OK {
			t.Errorf("Spell of %v again: %.200q, %d", l, again, e)
		}
	}
	for _, n := range []int{0, 1, 100, 4094, 4095} {
		for c := range 256 {
			l := tokens(text(strings.Repeat(string([]byte{byte(c)}), n), 0))
			s, _ := token.Spell(l)
			tells(t, s, l)
		}
	}
}

func TestToldIsSpelt(t *testing.T) { // P7.2, P7.5
	d := draws(3)
	for range 20000 {
		s := d.source(d.below(25))
		l, _, e := token.All(s)
		if e != api.OK {
			continue
		}
		again, e := token.Spell(l)
		if again != spelling(l) || e != api.OK {
			t.Errorf("Spell of what All tells of %q: %q, %d", s, again, e)
		}
		tells(t, again, l)
	}
}

func TestGapsChangeNothing(t *testing.T) { // P7.5
	d := draws(4)
	for range 3000 {
		l := d.tokens(d.below(20))
		var s strings.Builder
		var want []api.Token
		s.WriteString(d.gap())
		for _, x := range l {
			x.At = s.Len()
			want = append(want, x)
			s.WriteString(spelt(x))
			s.WriteString(d.gap())
		}
		isTold(t, s.String(), want, 0, api.OK)
		isTold(t, s.String()+"# to the end", want, 0, api.OK)
	}
}

// TestGapsInSources puts gaps ahead of single tokens of sources in which some stand side by side.
func TestGapsInSources(t *testing.T) { // P7.5
	d := draws(5)
	for range 3000 {
		s := d.source(d.below(20))
		l, _, e := token.All(s)
		if e != api.OK {
			continue
		}
		isTold(t, s+d.gap()+"#", l, 0, api.OK)
		for i, x := range l {
			gap := d.gap()
			want := slices.Clone(l)
			for k := range want[i:] {
				want[i+k].At += len(gap)
			}
			isTold(t, s[:x.At]+gap+s[x.At:], want, 0, api.OK)
		}
	}
}

// roomy is l with spare room behind it, in which there is something.
func roomy(l []api.Token) []api.Token {
	return append(slices.Clone(l), spare, spare)[:len(l)]
}

var spare = api.Token{Kind: 77, Text: "spare room that is nobody's", Int: 7, At: 7}

// isUnchanged fails unless l, made by roomy, is as it was, its spare room too.
func isUnchanged(t *testing.T, l, had []api.Token) {
	t.Helper()
	if all := l[:len(l)+2]; !slices.Equal(all, append(slices.Clone(had), spare, spare)) {
		t.Errorf("Spell changed %v to %v", had, all)
	}
}

// spoil writes into all that l has, its spare room too.
func spoil(l []api.Token) {
	l = l[:cap(l)]
	for i := range l {
		l[i] = api.Token{Kind: 99, Text: "spoilt"}
	}
}

func TestHandedInIsOnlyRead(t *testing.T) { // P7.4
	d := draws(6)
	for n := range 40 {
		had := d.tokens(n)
		for _, had := range [][]api.Token{had, append(had, number(-1, 0)), append(tokens(api.Token{}), had...), slices.Repeat(append(had, word("a", 9)), 1+16384/(n+1))} {
			l := roomy(had)
			token.Spell(l)
			isUnchanged(t, l, had)
		}
	}
}

func TestAnswersShareNothing(t *testing.T) { // P7.4
	for _, s := range []string{"a", "let x = 1 # one", `a <= "b\n" + "\x00"`, "(){}[],=<+-*/%==!=<=", "flow f() { return 1 }"} {
		want, _, _ := read(s)
		first, _, _ := token.All(s)
		second, _, _ := token.All(s)
		spoil(first)
		if !slices.Equal(second, want) {
			t.Errorf("All of %q: %v, not %v, once what another call told was spoilt", s, second, want)
		}
		isTold(t, s, want, 0, api.OK)
	}
	l := tokens(word("a", 0), text("\n", 0), sign("==", 0))
	s, _ := token.Spell(l)
	spoil(l)
	if s != `a "\n" ==` {
		t.Errorf("Spell: %q, once what was handed in was spoilt", s)
	}
}
