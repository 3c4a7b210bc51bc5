package token_test

import (
	"fmt"
	"math"
	"math/big"
	"regexp"
	"slices"
	"strconv"
	"strings"
	"testing"

	"prompter/api"
	"prompter/token"
)

// What a source is made of, as patterns.
const saidForm = `(?:[ !#-\[\]-~]|\\["\\n]|\\x[0-9a-f][0-9a-f])`

var (
	betweenForm = regexp.MustCompile(`^(?:[ \n]|#[^\n]*)*`)
	wordForm    = regexp.MustCompile(`^[a-z][a-z0-9_]*`)
	numberForm  = regexp.MustCompile(`^(?:0|[1-9][0-9]*)`)
	textForm    = regexp.MustCompile(`^"` + saidForm + `*"`)
	signForm    = regexp.MustCompile(`^(?:[=!<]=|[(){}\[\],=<+*/%-])`)
	oneSaid     = regexp.MustCompile(saidForm)
	saidSoFar   = regexp.MustCompile(`^"(` + saidForm + `*)`)
	begun       = regexp.MustCompile(`^(?:"` + saidForm + `*(?:\\(?:x[0-9a-f]?)?)?|!)?`)
	ofWord      = regexp.MustCompile(`^[0-9a-z_]`)
)

// tooLong tells whether s begins with what ErrLong is told of.
func tooLong(s string) bool {
	if so := saidSoFar.FindStringSubmatch(s); so != nil && len(oneSaid.FindAllString(so[1], -1)) > 4095 {
		return true
	}
	x, _ := new(big.Int).SetString("0"+numberForm.FindString(s), 10)
	return len(wordForm.FindString(s)) > 24 || x.Cmp(big.NewInt(math.MaxInt64)) > 0
}

// one is the token with which s begins and how many bytes it has; or none.
func one(s string) (api.Token, int) {
	if w := wordForm.FindString(s); w != "" {
		return api.Token{Kind: api.TWord, Text: w}, len(w)
	}
	if d := numberForm.FindString(s); d != "" {
		x, _ := strconv.ParseInt(d, 10, 64)
		return api.Token{Kind: api.TInt, Int: x}, len(d)
	}
	if q := textForm.FindString(s); q != "" {
		says, _ := strconv.Unquote(q)
		return api.Token{Kind: api.TText, Text: says}, len(q)
	}
	sign := signForm.FindString(s)
	return api.Token{Kind: api.TSign, Text: sign}, len(sign)
}

// read is All as the document tells it, by patterns.
func read(s string) (l []api.Token, place int, e api.Errno) {
	if len(s) > 16384 {
		return nil, 0, api.ErrLong
	}
	for at := 0; ; {
		at += len(betweenForm.FindString(s[at:]))
		if at == len(s) {
			return l, 0, api.OK
		}
		if tooLong(s[at:]) {
			return nil, at, api.ErrLong
		}
		t, n := one(s[at:])
		if n == 0 {
			if n = len(begun.FindString(s[at:])); at+n == len(s) {
				return nil, at + n, api.ErrShort
			}
			return nil, at + n, api.ErrText
		}
		if t.Kind == api.TInt && ofWord.MatchString(s[at+n:]) {
			return nil, at + n, api.ErrText
		}
		t.At = at
		l = append(l, t)
		at += n
	}
}

// hold fails unless All tells of s what the document says.
func hold(t *testing.T, s string) {
	t.Helper()
	l, at, e := read(s)
	isTold(t, s, l, at, e)
}

// isTold fails unless All tells that of s.
func isTold(t *testing.T, s string, l []api.Token, at int, e api.Errno) {
	t.Helper()
	if gotL, gotAt, gotE := token.All(s); !slices.Equal(gotL, l) || gotAt != at || gotE != e {
		t.Errorf("All of %.60q (%d bytes): %.200s, %d, %d, not %.200s, %d, %d", s, len(s), fmt.Sprint(gotL), gotAt, gotE, fmt.Sprint(l), at, e)
	}
}

// isFault fails unless All tells that fault of s.
func isFault(t *testing.T, s string, at int, e api.Errno) {
	t.Helper()
	isTold(t, s, nil, at, e)
	hold(t, s)
}

// word, number, text, sign are tokens, each at that place.
func word(s string, at int) api.Token   { return api.Token{Kind: 1, Text: s, At: at} }
func number(x int64, at int) api.Token  { return api.Token{Kind: 2, Int: x, At: at} }
func text(s string, at int) api.Token   { return api.Token{Kind: 3, Text: s, At: at} }
func sign(s string, at int) api.Token   { return api.Token{Kind: 4, Text: s, At: at} }
func tokens(l ...api.Token) []api.Token { return l }

func TestAll(t *testing.T) { // P7.1
	for s, want := range map[string][]api.Token{
		"":                                     nil,
		" \n ":                                 nil,
		"#":                                    nil,
		"# a\n#\n# \"":                         nil,
		"let x=1":                              {word("let", 0), word("x", 4), sign("=", 5), number(1, 6)},
		"a<=b":                                 {word("a", 0), sign("<=", 1), word("b", 3)},
		`"\x0a"`:                               {text("\n", 0)},
		`"\n"`:                                 {text("\n", 0)},
		`""`:                                   {text("", 0)},
		`""""`:                                 {text("", 0), text("", 2)},
		`" ~#!'"`:                              {text(" ~#!'", 0)},
		`"\"\\\x00\xff\xc3"`:                   {text("\"\\\x00\xff\xc3", 0)},
		`"\\n"`:                                {text("\\n", 0)},
		`"\x41\x7a1"`:                          {text("Az1", 0)},
		`a"b"c`:                                {word("a", 0), text("b", 1), word("c", 4)},
		`1"b"2`:                                {number(1, 0), text("b", 1), number(2, 4)},
		"0":                                    {number(0, 0)},
		"0 0":                                  {number(0, 0), number(0, 2)},
		"10":                                   {number(10, 0)},
		"0+0":                                  {number(0, 0), sign("+", 1), number(0, 2)},
		"-1":                                   {sign("-", 0), number(1, 1)},
		"9223372036854775807":                  {number(math.MaxInt64, 0)},
		"9223372036854775807 9":                {number(math.MaxInt64, 0), number(9, 20)},
		"a1_b__":                               {word("a1_b__", 0)},
		"a#b\nc":                               {word("a", 0), word("c", 4)},
		"1#b\n2":                               {number(1, 0), number(2, 4)},
		"=#=\n=":                               {sign("=", 0), sign("=", 4)},
		"# \t\r\x00\xff!1a\"\na":               {word("a", 11)},
		"===":                                  {sign("==", 0), sign("=", 2)},
		"====":                                 {sign("==", 0), sign("==", 2)},
		"<==":                                  {sign("<=", 0), sign("=", 2)},
		"<=<":                                  {sign("<=", 0), sign("<", 2)},
		"<<=":                                  {sign("<", 0), sign("<=", 1)},
		"< =":                                  {sign("<", 0), sign("=", 2)},
		"= =":                                  {sign("=", 0), sign("=", 2)},
		"=!=":                                  {sign("=", 0), sign("!=", 1)},
		"!==":                                  {sign("!=", 0), sign("=", 2)},
		"=<=":                                  {sign("=", 0), sign("<=", 1)},
		"(){}[],=<+-*/%":                       {sign("(", 0), sign(")", 1), sign("{", 2), sign("}", 3), sign("[", 4), sign("]", 5), sign(",", 6), sign("=", 7), sign("<", 8), sign("+", 9), sign("-", 10), sign("*", 11), sign("/", 12), sign("%", 13)},
		"flow f(p) { return p } # that is all": {word("flow", 0), word("f", 5), sign("(", 6), word("p", 7), sign(")", 8), sign("{", 10), word("return", 12), word("p", 19), sign("}", 21)},
	} {
		isTold(t, s, want, 0, api.OK)
		hold(t, s)
	}
}

func TestAllOfWrongBytes(t *testing.T) { // P7.1
	for s, at := range map[string]int{
		"01": 1, "00": 1, "0a": 1, "0_": 1, "1a": 1, "1_": 1, "12z": 2, "1A": 1, "x 00": 3, "10a": 2, "1e5": 1,
		"!x": 1, "! ": 1, "! =": 1, "!!": 1, "!!=": 1, "!\n=": 1, "!#\n": 1, "a!(": 2, "!<": 1,
		"A": 0, " A": 1, "aA": 1, "_": 0, "_a": 0, "a\tb": 1, "\r\n": 0, "a.b": 1, ">": 0, "a>=b": 1, "'a'": 0, "a;": 1, "a & b": 2, "\\": 0, "@": 0, "a\x00": 1, "\x7f": 0, "a é": 2, "\xff": 0, "#\n?": 2,
		"\"\n\"": 1, "\"a\n": 2, "\"\t\"": 1, "\"\x7f\"": 1, "\"\x1f\"": 1, "\"\x80\"": 1, "\"é\"": 1, "\"a\x00": 2,
		`"\q"`: 2, `"\` + "\n": 2, `"\N"`: 2, `"\0"`: 2, `"\ "`: 2, `"\` + "\xff": 2, `"a\'"`: 3,
		`"\x"`: 3, `"\xg0"`: 3, `"\xA0"`: 3, `"\x0"`: 4, `"\x0A"`: 4, `"\x0g"`: 4, `"\x\x`: 3, `"\x-1"`: 3, `"\X41"`: 2, `"\x0` + "\n": 4,
	} {
		isFault(t, s, at, api.ErrText)
		isFault(t, "let x = # one\n"+s, 14+at, api.ErrText)
		isFault(t, s+" !", at, api.ErrText)
	}
}

func TestAllOfWhatEndsTooEarly(t *testing.T) { // P7.1
	for _, s := range []string{`"`, `"a`, `"a b#`, `"\`, `"\x`, `"\x0`, `"\x0a`, `"\"`, `"\\\"`, `"\n`, "!", "a!", "=!", "<!", "1!", `""!`, "!=!", `"""`, `"a"b"`, `a "#"c"`} {
		isFault(t, s, len(s), api.ErrShort)
		isFault(t, "a\n"+s, 2+len(s), api.ErrShort)
	}
}

func TestAllOfLongWords(t *testing.T) { // P7.1
	for _, behind := range []string{"", " ", "(", "#", "\"\"", "A", "\x00", "!", "é", " 00", "\n_"} {
		for n := 1; n < 60; n++ {
			s := strings.Repeat("a", n)
			hold(t, s+behind)
			hold(t, "if "+s+behind)
			hold(t, "a"+strings.Repeat("1", n)+behind)
			hold(t, "z"+strings.Repeat("_", n)+behind)
		}
		isFault(t, strings.Repeat("a", 25)+behind, 0, api.ErrLong)
		isFault(t, "a "+strings.Repeat("a", 16000)+behind, 2, api.ErrLong)
	}
	isTold(t, strings.Repeat("z", 24), tokens(word(strings.Repeat("z", 24), 0)), 0, api.OK)
	isTold(t, strings.Repeat("z9_", 8)+"(", tokens(word(strings.Repeat("z9_", 8), 0), sign("(", 24)), 0, api.OK)
	isFault(t, "? "+strings.Repeat("a", 25), 0, api.ErrText)
}

func TestAllOfGreatNumbers(t *testing.T) { // P7.1
	for _, behind := range []string{"", " ", "(", "#", "a", "_", "A", "!", "é", " 00"} {
		for _, s := range []string{"9223372036854775808", "9223372036854775809", "9223372036854775817", "9300000000000000000", "18446744073709551615", "18446744073709551616", "18446744073709551617", "27670116110564327424", "10000000000000000000", "36893488147419103232", strings.Repeat("9", 400), "1" + strings.Repeat("0", 16000)} {
			isFault(t, s+behind, 0, api.ErrLong)
			isFault(t, "a=\n"+s+behind, 3, api.ErrLong)
		}
		for _, s := range []string{"9223372036854775807", "9223372036854775806", "999999999999999999", "1000000000000000000", "4294967296", "2147483648", "123456789", "9"} {
			hold(t, s+behind)
		}
	}
	for x := int64(1); x > 0; x *= 2 {
		for _, x := range []int64{x - 1, x, x + 1, 10 * (x % (1 << 58))} {
			isTold(t, fmt.Sprint(x), tokens(number(x, 0)), 0, api.OK)
		}
	}
	isFault(t, "09223372036854775808", 1, api.ErrText)
	isFault(t, "0"+strings.Repeat("9", 100), 1, api.ErrText)
}

func TestAllOfLongTexts(t *testing.T) { // P7.1
	for _, said := range []string{"a", "#", `\n`, `\"`, `\\`} {
		for n := 4094; n < 4098; n++ {
			s := `"` + strings.Repeat(said, n)
			for _, behind := range []string{"", `"`, `"a`, `" !`, "\n", "\x00", `\`, `\q`, `\x`, `\xA`, `\x0`, `\x0"`, `\x0a`, `\x0a"`, said, said + `"`, "\xff\"", said + said + "\n"} {
				hold(t, "do "+s+behind)
			}
		}
	}
	most := `"` + strings.Repeat(`\x9f`, 4095) + `"`
	isTold(t, most+"  ", tokens(text(strings.Repeat("\x9f", 4095), 0)), 0, api.OK)
	isTold(t, "a+"+most, tokens(word("a", 0), sign("+", 1), text(strings.Repeat("\x9f", 4095), 2)), 0, api.OK)
	isFault(t, most[:len(most)-1]+`a"`, 0, api.ErrLong)
	isFault(t, most[:len(most)-1]+`ab`, 0, api.ErrLong)
	isFault(t, " "+most[:len(most)-1]+"a", 1, api.ErrLong)
	isFault(t, " "+most[:len(most)-1], 16382, api.ErrShort)
	isFault(t, " "+most[:len(most)-1]+"\n", 16382, api.ErrText)
	isFault(t, `a "`+strings.Repeat("a", 4096)+`"`, 2, api.ErrLong)
	isFault(t, `"`+strings.Repeat("a", 4095)+"\n"+strings.Repeat("a", 4095), 4096, api.ErrText)
	isFault(t, `"`+strings.Repeat("a", 4096)+"\n", 0, api.ErrLong)
	isFault(t, `"`+strings.Repeat("a", 4096), 0, api.ErrLong)
}

func TestAllOfLongSources(t *testing.T) { // P7.1
	for _, of := range []string{" ", "\n", "#", "a ", "(", "1+", `"a"`, "#\n", "<=", "\x00", "\"", "A", "1", "01"} {
		for n := api.MaxSource - 1; n < api.MaxSource+2; n++ {
			hold(t, strings.Repeat(of, n/len(of)+1)[:n])
			hold(t, (strings.Repeat("a ", 9000) + of + of)[18002-n-2:][:n])
		}
		isFault(t, strings.Repeat(of, api.MaxSource)[:api.MaxSource]+of, 0, api.ErrLong)
		isFault(t, strings.Repeat(of, 1<<20), 0, api.ErrLong)
	}
	isTold(t, strings.Repeat(" ", api.MaxSource-1)+"a", tokens(word("a", api.MaxSource-1)), 0, api.OK)
	isFault(t, strings.Repeat(" ", api.MaxSource-1)+"!", api.MaxSource, api.ErrShort)
	isFault(t, strings.Repeat(" ", api.MaxSource)+"a", 0, api.ErrLong)
	if l, _, e := token.All(strings.Repeat("(", api.MaxSource)); len(l) != api.MaxSource || e != api.OK {
		t.Errorf("All of the most tokens: %d, %d", len(l), e)
	}
}

// TestAllOfShortSources goes through all short sources of what matters.
func TestAllOfShortSources(t *testing.T) { // P7.1
	all(4, []string{"a", "z", "A", "0", "1", "_", "\"", "\\", "n", "x", "!", "=", "<", "#", "\n", " ", "(", "\x80"}, func(s string) { hold(t, s) })
	all(5, []string{"\\", "\"", "x", "0", "f", "g", "n", "\n"}, func(s string) { hold(t, "\""+s) })
	all(6, []string{"=", "<", "!", " ", "a"}, func(s string) { hold(t, s) })
}

// all hands out all texts of at most n of these parts.
func all(n int, parts []string, do func(s string)) {
	texts := []string{""}
	for range n + 1 {
		var longer []string
		for _, s := range texts {
			do(s)
			for _, p := range parts {
				longer = append(longer, s+p)
			}
		}
		texts = longer
	}
}

// TestAllOfEachByte puts each byte wherever something is asked of a byte.
func TestAllOfEachByte(t *testing.T) { // P7.1
	for _, ahead := range []string{"", "a", "a1", "0", "7", "42", "\"", "\"a", "\"\\", "\"\\x", "\"\\x0", "\"\\xf", "\"\\x00", "!", "!=", "=", "==", "<", "<=", "(", "#", "# a", " ", "\n", "\"\"", "a "} {
		for c := range 256 {
			for _, behind := range []string{"", "a", "0", "\"", "=", "\n", " 1\"", "\\\"\""} {
				hold(t, ahead+string([]byte{byte(c)})+behind)
			}
		}
	}
	for x := range 1 << 16 {
		hold(t, string([]byte{byte(x >> 8), byte(x)}))
		hold(t, "\"\\x"+string([]byte{byte(x >> 8), byte(x)})+"\"")
	}
}

// draws are numbers that a short rule strews.
type draws uint64

func (d *draws) below(n int) int {
	*d = 6364136223846793005**d + 1442695040888963407
	return int(*d>>33) % n
}

// source is a strewn source, most of whose parts are right.
func (d *draws) source(parts int) string {
	all := []string{"a", "let", "x1_", strings.Repeat("w", 24), "0", "7", "120", "9223372036854775807", `""`, `"a b"`, `"\x0a\""`, `"#"`, "(", ")", "{", "}", "[", "]", ",", "=", "==", "!=", "<", "<=", "+", "-", "*", "/", "%", " ", " ", " ", " ", "\n", "\n", "# a remark\n"}
	if d.below(3) == 0 {
		all = append(all, "!", "\"", "\\", "A", "_", "00", "1a", strings.Repeat("w", 25), "9223372036854775808", "\t", "\xff", "#")
	}
	var s strings.Builder
	for range parts {
		s.WriteString(all[d.below(len(all))])
	}
	return s.String()
}

func TestAllOfStrewn(t *testing.T) { // P7.1
	d := draws(1)
	for range 20000 {
		s := d.source(d.below(20))
		hold(t, s)
		if len(s) > 0 {
			at := d.below(len(s))
			hold(t, s[:at])
			hold(t, s[:at]+string([]byte{byte(d.below(256))})+s[at:])
			hold(t, s[:at]+s[at+1:])
		}
	}
}

// words are the language's words, as the document tells them.
var words = strings.Fields("flow let if else while return fail sleep do none true false or and not len num re im conj call child timer fork await settle take version")

func TestKeyword(t *testing.T) { // P7.3
	if len(words) != 28 {
		t.Errorf("%d words", len(words))
	}
	for _, w := range words {
		if !token.Keyword(w) {
			t.Errorf("Keyword of %q", w)
		}
		isKeyword(t, strings.ToUpper(w))
		for i := range len(w) + 1 {
			isKeyword(t, w[:i])
			isKeyword(t, w[i:])
			for c := range 256 {
				isKeyword(t, w[:i]+string([]byte{byte(c)})+w[i:])
				if i < len(w) {
					isKeyword(t, w[:i]+string([]byte{byte(c)})+w[i+1:])
				}
			}
		}
		for _, v := range words {
			isKeyword(t, w+v)
			isKeyword(t, w+" "+v)
		}
	}
	all(3, strings.Split("abcdefghijklmnopqrstuvwxyz", ""), func(s string) { isKeyword(t, s) })
	for _, s := range []string{"", "settles", "a", "_", "0", "(", "==", "elif", "for", "flow ", "x", "var", "nil", strings.Repeat("flow", 5000)} {
		isKeyword(t, s)
	}
}

// isKeyword fails unless Keyword tells of s whether it is one of these words.
func isKeyword(t *testing.T, s string) {
	t.Helper()
	if got := token.Keyword(s); got != slices.Contains(words, s) {
		t.Errorf("Keyword of %q: %t", s, got)
	}
}
