package plane_test

import (
	"math"
	"strings"
	"testing"

	"prompter/api"
	"prompter/plane"
)

// none is the digits of a part that is 0.
const none = "0000000000000000"

func TestText(t *testing.T) { // P2.7
	for z, wanted := range map[complex128]string{
		0:                                       none + none,
		1:                                       "3ff0000000000000" + none,
		1i:                                      none + "3ff0000000000000",
		-2 + 0.1i:                               "c000000000000000" + "3fb999999999999a",
		complex(tiniest, -most):                 "0000000000000001" + "ffefffffffffffff",
		complex(-tiniest, 0x1.abcdef9876543p+0): "8000000000000001" + "3ffabcdef9876543",
	} {
		if s := plane.Text(z); s != wanted {
			t.Errorf("Text(%v): %q", z, s)
		}
	}
}

func TestTextOfWhatIsNotFine(t *testing.T) { // P2.7
	for _, part := range []float64{minus, infinite, -infinite, nan} {
		for _, z := range []complex128{complex(part, 1), complex(1, part), complex(part, part)} {
			if s := plane.Text(z); s != "" {
				t.Errorf("Text(%v): %q", z, s)
			}
		}
	}
}

func TestRead(t *testing.T) { // P2.7
	for s, wanted := range map[string]complex128{
		none + none:                             0,
		"3ff0000000000000" + none:               1,
		none + "c000000000000000":               -2i,
		"7fefffffffffffff8000000000000001":      complex(most, -tiniest),
		"3ffabcdef9876543" + "000fffffffffffff": complex(0x1.abcdef9876543p+0, 0x1p-1022-tiniest),
	} {
		if z, e := plane.Read(s); e != api.OK || !same(z, wanted) {
			t.Errorf("Read(%q): %v, %d, not %v", s, z, e, wanted)
		}
	}
}

func TestReadOfNoText(t *testing.T) { // P2.7
	wrong := []string{
		"", "0", none, none + none[1:], none + none + "0", none + none + none, "3FF0000000000000" + none,
		"0x3ff00000000000" + none, "+000000000000000" + none, none + "-000000000000001", none + " 000000000000001",
		"7ff0000000000000" + none[1:], "7ff0000000000000" + none[1:] + "g", // no such digits go ahead of what is not fine
		strings.Repeat("é", 16), strings.Repeat("0", 1<<20),
	}
	for c := range 256 {
		if !strings.Contains("0123456789abcdef", string([]byte{byte(c)})) {
			for at := range 32 {
				s := []byte(none + none)
				s[at] = byte(c)
				wrong = append(wrong, string(s))
			}
		}
	}
	for _, s := range wrong {
		if z, e := plane.Read(s); !same(z, 0) || e != api.ErrText {
			t.Errorf("Read(%.40q): %v, %d, not ErrText", s, z, e)
		}
	}
}

func TestReadOfWhatIsNotFine(t *testing.T) { // P2.7
	for _, part := range []string{"8000000000000000", "7ff0000000000000", "fff0000000000000", "7ff0000000000001", "7ff8000000000000", "fff8000000000000", "7fffffffffffffff", "ffffffffffffffff"} {
		for _, s := range []string{part + none, none + part, part + part, part + "3ff0000000000000"} {
			if z, e := plane.Read(s); !same(z, 0) || e != api.ErrRange {
				t.Errorf("Read(%q): %v, %d, not ErrRange", s, z, e)
			}
		}
	}
}

func TestTextAndRead(t *testing.T) { // P2.8
	for _, z := range append(edges(), strewn(100)...) {
		if !plane.Fine(z) {
			continue
		}
		if back, e := plane.Read(plane.Text(z)); e != api.OK || !same(back, z) {
			t.Errorf("Read(Text(%v)): %v, %d", z, back, e)
		}
	}
	for b := range uint64(1 << 12) { // each sign and exponent
		part := math.Float64frombits(b<<52 | 0x123456789abcd)
		s := plane.Text(complex(1, part))
		if z, e := plane.Read(s); s != "" && (e != api.OK || plane.Text(z) != s) {
			t.Errorf("Read(%q): %v, %d", s, z, e)
		}
	}
}
