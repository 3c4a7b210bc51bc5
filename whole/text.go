package whole

import (
	"strconv"

	"prompter/api"
)

// Text is a's decimal digits, behind a minus if it is below 0.
func Text(a int64) string {
	return strconv.FormatInt(a, 10)
}

// Read is the number whose Text is s.
func Read(s string) (int64, api.Errno) {
	digits, minus := cutMinus(s)
	if !isNumber(digits, minus) {
		return 0, api.ErrText
	}
	size, is := readSize(digits, room(minus))
	if !is {
		return 0, api.ErrLong
	}
	return signed(size, minus), api.OK
}

// cutMinus is what stands behind a minus, and whether there is one.
func cutMinus(s string) (digits string, minus bool) {
	if len(s) > 0 && s[0] == '-' {
		return s[1:], true
	}
	return s, false
}

// isNumber tells whether digits, behind a minus or none, are what Text might write of a number of any size.
func isNumber(digits string, minus bool) bool {
	if len(digits) == 0 {
		return false
	}
	if digits[0] == '0' {
		return len(digits) == 1 && !minus
	}
	for i := 0; i < len(digits); i++ {
		if digits[i] < '0' || digits[i] > '9' {
			return false
		}
	}
	return true
}

// readSize is the number that digits say; false if it is above most, which is at least 9.
func readSize(digits string, most uint64) (uint64, bool) {
	var size uint64
	for i := 0; i < len(digits); i++ {
		digit := uint64(digits[i] - '0')
		if size > (most-digit)/10 {
			return 0, false
		}
		size = 10*size + digit
	}
	return size, true
}
