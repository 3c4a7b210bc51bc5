package plane

import (
	"math"
	"strconv"
	"strings"

	"prompter/api"
)

// partDigits is how many digits to the base 16 the bits of a part have.
const partDigits = 16

// Text is the bits of z, part by part, as digits to the base 16; no text unless z is fine.
func Text(z complex128) string {
	if !Fine(z) {
		return ""
	}
	return digits(real(z)) + digits(imag(z))
}

// Read is the number whose bits s says, if it is fine.
func Read(s string) (complex128, api.Errno) {
	if len(s) != 2*partDigits {
		return 0, api.ErrText
	}
	re, first := part(s[:partDigits])
	im, second := part(s[partDigits:])
	if !first || !second {
		return 0, api.ErrText
	}
	z := complex(re, im)
	if !Fine(z) {
		return 0, api.ErrRange
	}
	return z, api.OK
}

// digits is the bits of x, all of them.
func digits(x float64) string {
	s := strconv.FormatUint(math.Float64bits(x), 16)
	return strings.Repeat("0", partDigits-len(s)) + s
}

// part is the float whose bits s says in partDigits digits; false if one is none.
func part(s string) (float64, bool) {
	var b uint64
	for i := range len(s) {
		d, is := digit(s[i])
		if !is {
			return 0, false
		}
		b = b<<4 | d
	}
	return math.Float64frombits(b), true
}

// digit is what c says as a digit to the base 16; false if it is none.
func digit(c byte) (uint64, bool) {
	switch {
	case '0' <= c && c <= '9':
		return uint64(c - '0'), true
	case 'a' <= c && c <= 'f':
		return uint64(c-'a') + 10, true
	}
	return 0, false
}
