package instr_test

import (
	"fmt"
	"slices"
	"strings"
	"testing"

	"prompter/api"
	"prompter/instr"
)

// isUnlisted fails, unless Unlist answers that.
func isUnlisted(t *testing.T, s string, want readCode) {
	t.Helper()
	l, n, e := instr.Unlist(s)
	if !slices.Equal(l, want.code) || n != want.n || e != want.e {
		t.Fatalf("Unlist of %.200q: %s, %d, %d, not %s", s, short(l), n, e, short(want))
	}
}

func TestList(t *testing.T) { // P14.6, P14.7
	for s, want := range map[string]string{
		"":                                    "",
		"end":                                 "0 end\n",
		`text "a\x0a"; call 2 pay`:            "0 text \"a\\x0a\"\n1 call 2 pay\n",
		"int -9223372036854775808; int 0":     "0 int -9223372036854775808\n1 int 0\n",
		"int 9223372036854775807; int -7":     "0 int 9223372036854775807\n1 int -7\n",
		"jump 1; branch 0; or 1; and 1":       "0 jump 1\n1 branch 0\n2 or 1\n3 and 1\n",
		"fork 0; list 2048; load 99; store 0": "0 fork 0\n1 list 2048\n2 load 99\n3 store 0\n",
		"child 0 a_1; take go; version; eq":   "0 child 0 a_1\n1 take go\n2 version\n3 eq\n",
		`text ""; text " a b "`:               "0 text \"\"\n1 text \" a b \"\n",
		`text "\x22\x5c'!~\x7f\x1f\x80"`:      "0 text \"\\x22\\x5c'!~\\x7f\\x1f\\x80\"\n",
	} {
		got, e := instr.List(code(s))
		if got != want || e != api.OK {
			t.Errorf("List of %s: %q, %d", s, got, e)
		}
		isUnlisted(t, want, readCode{code(s), 0, api.OK})
	}
}

// TestListBytes holds texts of each byte, and of each two.
func TestListBytes(t *testing.T) { // P14.6, P14.7, P14.9
	digits := "0123456789abcdef"
	for c := range 256 {
		plain := c >= 0x20 && c <= 0x7e && c != 0x22 && c != 0x5c
		want := string([]byte{'\\', 'x', digits[c/16], digits[c%16]})
		if plain {
			want = string([]byte{byte(c)})
		}
		for _, ahead := range []string{"", "a", "\xc3", "é", "\\", "\""} {
			l := []api.Instr{{Op: api.IText, Text: ahead + string([]byte{byte(c)})}}
			s, e := instr.List(l)
			if !strings.HasSuffix(s, want+"\"\n") || s != plainList(l) || e != api.OK {
				t.Errorf("List of the text %q: %q, %d", l[0].Text, s, e)
			}
			isUnlisted(t, s, readCode{l, 0, api.OK})
		}
		// As an escape, as it is: just one of the two.
		ok, wrong := readCode{[]api.Instr{{Op: api.IText, Text: string([]byte{byte(c)})}}, 0, api.OK}, readCode{nil, 0, api.ErrText}
		escaped, bare := ok, wrong
		if plain {
			escaped, bare = wrong, ok
		}
		isUnlisted(t, fmt.Sprintf("0 text \"\\x%02x\"\n", c), escaped)
		isUnlisted(t, "0 text \""+string([]byte{byte(c)})+"\"\n", bare)
		if upper := fmt.Sprintf("0 text \"\\x%02X\"\n", c); upper != strings.ToLower(upper) {
			isUnlisted(t, upper, wrong)
		}
	}
}

func TestUnlistWrong(t *testing.T) { // P14.7
	for _, x := range []struct {
		s  string
		at int
	}{
		// Places.
		{"1 end\n", 0}, {"00 end\n", 0}, {"-0 end\n", 0}, {"+0 end\n", 0}, {" 0 end\n", 0}, {"0  end\n", 0}, {"end\n", 0}, {"0end\n", 0}, {"0\tend\n", 0}, {" end\n", 0}, {"x end\n", 0}, {"0 end\n0 end\n", 1}, {"0 end\n2 end\n", 1},
		{"0 end\n01 end\n", 1}, {"18446744073709551616 end\n", 0}, {"0 end\n18446744073709551617 end\n", 1}, {"1 end\n0 end\n", 0},
		// Line feeds.
		{"0 end", 0}, {"0 end\n1 end", 1}, {"\n", 0}, {"0 end\n\n", 1}, {"\n0 end\n", 0}, {"0 end\r\n", 0}, {"0 end\n1", 1}, {"0 end\n ", 1}, {"0 end\x00", 0}, {"0 end 1 end\n", 0}, {"0\nend\n", 0}, {"0", 0}, {" ", 0}, {"0 ", 0}, {"0 \n", 0}, {"0\n", 0},
		// Words, and what stands behind those that have no field.
		{"0 End\n", 0}, {"0 en\n", 0}, {"0 ends\n", 0}, {"0 x\n", 0}, {"0 end \n", 0}, {"0 end 0\n", 0}, {"0 end  \n", 0}, {"0 eq 1\n", 0}, {"0 take\n", 0}, {"0 ==\n", 0}, {"0 7\n", 0}, {"0 28\n", 0},
		// Numbers.
		{"0 int\n", 0}, {"0 int \n", 0}, {"0 int 01\n", 0}, {"0 int -0\n", 0}, {"0 int +1\n", 0}, {"0 int 1 \n", 0}, {"0 int  1\n", 0}, {"0 int 9223372036854775808\n", 0}, {"0 int -9223372036854775809\n", 0}, {"0 int 1.0\n", 0},
		{"0 int 1_0\n", 0}, {"0 int 0x1\n", 0}, {"0 int 1e1\n", 0}, {"0 int --1\n", 0}, {"0 int -\n", 0}, {"0 int 99999999999999999999999999\n", 0}, {"0 int 1 1\n", 0}, {"0 int a\n", 0},
		{"0 list\n", 0}, {"0 list \n", 0}, {"0 list 2049\n", 0}, {"0 list -1\n", 0}, {"0 list 00\n", 0}, {"0 list 1 \n", 0}, {"0 list 1 a\n", 0}, {"0 list 18446744073709551616\n", 0}, {"0 load 100\n", 0}, {"0 store 100\n", 0}, {"0 load -1\n", 0}, {"0 load 4294967296\n", 0},
		{"0 load 18446744073709551617\n", 0}, {"0 jump 00\n", 0}, {"0 jump -0\n", 0}, {"0 jump\n", 0}, {"0 jump \n", 0}, {"0 jump 0 \n", 0}, {"0 jump a\n", 0},
		// Texts.
		{"0 text\n", 0}, {"0 text \n", 0}, {"0 text a\n", 0}, {"0 text \"\n", 0}, {"0 text \"a\n", 0}, {"0 text a\"\n", 0}, {"0 text \"\"\"\n", 0}, {"0 text \"a\"b\"\n", 0}, {"0 text \"\" \n", 0}, {"0 text  \"\"\n", 0}, {"0 text \"\\\"\n", 0},
		{"0 text \"\\\\\"\n", 0}, {"0 text \"\\\"\"\n", 0}, {"0 text \"\\n\"\n", 0}, {"0 text \"\\x\"\n", 0}, {"0 text \"\\x0\"\n", 0}, {"0 text \"\\x0g\"\n", 0}, {"0 text \"\\x0A\"\n", 0}, {"0 text \"\\X0a\"\n", 0}, {"0 text \"\\x41\"\n", 0},
		{"0 text \"\\u0041\"\n", 0}, {"0 text \"\\012\"\n", 0}, {"0 text \"é\"\n", 0}, {"0 text \"\t\"\n", 0}, {"0 text \"a\nb\"\n", 0}, {"0 text `a`\n", 0}, {"0 text 'a'\n", 0}, {"0 text \"a\" 1\n", 0}, {"0 text 1\n", 0}, {"0 text \"\\xff\n", 0},
		// Names.
		{"0 take \n", 0}, {"0 take A\n", 0}, {"0 take 1a\n", 0}, {"0 take a b\n", 0}, {"0 take a \n", 0}, {"0 take  a\n", 0}, {"0 take \"a\"\n", 0}, {"0 take a\x00\n", 0}, {"0 take " + strings.Repeat("a", 25) + "\n", 0},
		{"0 call 1\n", 0}, {"0 call 1 \n", 0}, {"0 call pay\n", 0}, {"0 call pay 1\n", 0}, {"0 call 1 Pay\n", 0}, {"0 call 1  pay\n", 0}, {"0 call 2049 pay\n", 0}, {"0 call -1 pay\n", 0}, {"0 call 01 pay\n", 0}, {"0 call 1 pay \n", 0}, {"0 call 1 2 pay\n", 0}, {"0 call  pay\n", 0},
		{"0 child 0\n", 0}, {"0 child 0 _\n", 0},
		// Targets: what is wrong otherwise goes ahead of what is not there.
		{"0 jump 7\n", 0}, {"0 jump 1\n", 0}, {"0 end\n1 jump 2\n", 1}, {"0 jump 2\n1 jump 2\n", 0}, {"0 jump 1\n1 branch 2\n2 or 3\n", 2}, {"0 fork 1\n", 0}, {"0 and 1\n", 0}, {"0 end\n1 jump 5\n2 x\n", 2}, {"0 jump 7\n1 end", 1},
		{"0 jump 9223372036854775807\n1 \n", 1}, {"0 jump 9223372036854775807\n1 end\n", 0}, {"0 jump -1\n", 0}, {"0 jump -1\n1 x\n", 1}, {"0 jump -9223372036854775808\n1 x\n", 1}, {"0 jump 9223372036854775808\n1 x\n", 0}, {"0 jump 18446744073709551616\n1 x\n", 0},
		{"0 jump 1\n1 jump 3\n2 load 100\n", 2},
	} {
		isUnlisted(t, x.s, readCode{nil, x.at, api.ErrText})
		isUnlisted(t, x.s, plainUnlist(x.s))
	}
	isUnlisted(t, "0 jump 1\n1 end\n", readCode{code("jump 1; end"), 0, api.OK})
	isUnlisted(t, "", readCode{})
}

// see fails, unless Unlist answers of s what the chapter says, and List of that is s.
func see(t *testing.T, s string) {
	t.Helper()
	want := plainUnlist(s)
	isUnlisted(t, s, want)
	if want.e == api.OK {
		if again, e := instr.List(want.code); again != s || e != api.OK {
			t.Fatalf("List of Unlist of %q: %q, %d", s, again, e)
		}
	}
}

// allPieces hands over all texts of at most n pieces, behind what is told.
func allPieces(pieces []string, n int, ahead string, do func(s string)) {
	do(ahead)
	if n > 0 {
		for _, p := range pieces {
			allPieces(pieces, n-1, ahead+p, do)
		}
	}
}

func TestUnlistAllShort(t *testing.T) { // P14.7, P14.9
	do := func(s string) { see(t, s) }
	allPieces([]string{"0", "1", " ", "\n", "end", "jump", "int", "-", "x"}, 4, "", do)
	allPieces([]string{"0", "1", " ", "\n", "end", "-", "\n1 end"}, 4, "0 jump ", do)
	allPieces([]string{"\"", "\\", "x", "0", "a", " ", "\n", "\\x0a", "\xff"}, 4, "0 text ", do)
	allPieces([]string{"0", "2048", " ", "a", "\n", "A", "_"}, 4, "0 call ", do)
	allPieces([]string{"0", "9", " ", "-", "\n", "99"}, 4, "0 load ", do)
	allPieces([]string{"0 jump 1\n", "1 jump 0\n", "1 branch 2\n", "2 end\n", "2 fork 9\n", "3 end\n", "1 x\n", "2 end"}, 4, "", do)
}

func TestUnlistStrewn(t *testing.T) { // P14.6, P14.7, P14.9
	d := draws(7)
	for range 5000 {
		l := d.code(d.below(12))
		s, e := instr.List(l)
		if s != plainList(l) || e != api.OK {
			t.Fatalf("List of %s: %q, %d", short(l), s, e)
		}
		isUnlisted(t, s, readCode{l, 0, api.OK})
		if s == "" {
			continue
		}
		at := d.below(len(s))
		see(t, s[:at])
		see(t, s[at:])
		x := []byte(s)
		x[at] = "0123456789 abcdefx\"\\\n-_ZA\x00\xff"[d.below(27)]
		see(t, string(x))
		see(t, s[:at]+string(x[at:]))
		see(t, s[:at]+s[at+1:])
		see(t, s[:at]+string(x[at:at+1])+s[at:])
	}
}
