package whole_test

import (
	"math/big"
	"strings"
	"testing"

	"prompter/api"
	"prompter/whole"
)

func TestText(t *testing.T) { // P1.5
	for a, wanted := range map[int64]string{0: "0", 7: "7", -7: "-7", 10: "10", -100: "-100", greatest: "9223372036854775807", least: "-9223372036854775808"} {
		if got := whole.Text(a); got != wanted {
			t.Errorf("Text(%d): %q", a, got)
		}
	}
	for _, a := range some() {
		if got := whole.Text(a); got != big.NewInt(a).String() {
			t.Errorf("Text(%d): %q", a, got)
		}
	}
}

func TestRead(t *testing.T) { // P1.5
	for s, wanted := range map[string]int64{"0": 0, "9": 9, "-1": -1, "10": 10, "-305": -305, "9223372036854775807": greatest, "-9223372036854775807": -greatest, "-9223372036854775808": least, "9223372036854775799": greatest - 8} {
		if got, e := whole.Read(s); got != wanted || e != api.OK {
			t.Errorf("Read(%q): %d, %d", s, got, e)
		}
	}
}

func TestReadOfTooMuch(t *testing.T) { // P1.5
	for _, s := range []string{
		"9223372036854775808", "9223372036854775810", "9300000000000000000", "-9223372036854775809", "-9223372036854775810",
		"10000000000000000000", "-10000000000000000000", "18446744073709551615", "18446744073709551616", "18446744073709551617", "-18446744073709551616", "-18446744073709551617", "184467440737095516160",
		"1" + strings.Repeat("0", 5000), "-" + strings.Repeat("9", 5000),
	} {
		if got, e := whole.Read(s); got != 0 || e != api.ErrLong {
			t.Errorf("Read(%q): %d, %d, not ErrLong", s, got, e)
		}
	}
}

func TestReadOfNoNumber(t *testing.T) { // P1.5
	for _, s := range []string{
		"", "-", "-0", "00", "007", "-007", "-01", "+1", "+", "--1", "1-", "1-2", "12x", "x12", "-x", " 1", "1 ", "1\n", "1.0", "1e3", "1_0", "0x1", "1/2", "1:2", "/", ":", "\x00", "1\x00", "\xff", "\u0661", "\uff11", "\u22121",
		"9223372036854775808x", "-9223372036854775809 ", "099999999999999999999", strings.Repeat("9", 5000) + "-", "0" + strings.Repeat("9", 5000),
	} {
		if got, e := whole.Read(s); got != 0 || e != api.ErrText {
			t.Errorf("Read(%q): %d, %d, not ErrText", s, got, e)
		}
	}
}

// TestReadOfAllBytes puts each byte at each place of a number of several digits.
func TestReadOfAllBytes(t *testing.T) { // P1.5
	for at := range 3 {
		for c := range 256 {
			b := []byte("345")
			b[at] = byte(c)
			n, is := new(big.Int).SetString(string(b), 10)
			is = is && n.String() == string(b)
			got, e := whole.Read(string(b))
			if is && (got != n.Int64() || e != api.OK) || !is && (got != 0 || e != api.ErrText) {
				t.Errorf("Read(%q): %d, %d", b, got, e)
			}
		}
	}
}

func TestReadOfText(t *testing.T) { // P1.7
	for _, a := range some() {
		if got, e := whole.Read(whole.Text(a)); got != a || e != api.OK {
			t.Errorf("Read(Text(%d)): %d, %d", a, got, e)
		}
	}
}

func TestTextOfRead(t *testing.T) { // P1.7
	for _, s := range []string{"0", "-0", "1", "01", "-1", "-01", "+1", "10", "9223372036854775807", "-9223372036854775808", "9223372036854775808", "12x"} {
		if a, e := whole.Read(s); e == api.OK && whole.Text(a) != s {
			t.Errorf("Read(%q) is %d, which is written %q", s, a, whole.Text(a))
		}
	}
}
