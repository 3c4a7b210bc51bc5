package token

import (
	"strconv"
	"strings"

	"prompter/api"
)

// What reads here is handed what begins with the thing that it reads, and tells that thing and how many bytes it takes; or a fault, and how many bytes ahead of its place there are.

// word reads a word.
func word(s string) (name string, n int, e api.Errno) {
	for n < len(s) && isOfWord(s[n]) {
		n++
	}
	if n > api.MaxName {
		return "", 0, api.ErrLong
	}
	return strings.Clone(s[:n]), n, api.OK // a name that is kept shall not keep its source
}

// number reads a number.
func number(s string) (x int64, n int, e api.Errno) {
	n = 1
	if s[0] != '0' { // a 0 is a number of its own
		for n < len(s) && isDigit(s[n]) {
			n++
		}
	}
	x, err := strconv.ParseInt(s[:n], 10, 64)
	if err != nil { // of digits alone: the number is too great
		return 0, 0, api.ErrLong
	}
	if n < len(s) && isOfWord(s[n]) {
		return 0, n, api.ErrText
	}
	return x, n, api.OK
}

// text reads a text. That it says too much is told ahead of whatever else is wrong behind that.
func text(s string) (says string, n int, e api.Errno) {
	var said []byte
	for n = 1; n < len(s) && s[n] != '"'; {
		c, wide, e := saidByte(s[n:])
		n += wide
		if e != api.OK {
			return "", n, e
		}
		if len(said) == maxText {
			return "", 0, api.ErrLong
		}
		said = append(said, c)
	}
	if n == len(s) {
		return "", n, api.ErrShort
	}
	return string(said), n + 1, api.OK
}

// saidByte reads a byte as it stands in a text: as it is, or as an escape.
func saidByte(s string) (c byte, n int, e api.Errno) {
	switch {
	case !isPlain(s[0]):
		return 0, 0, api.ErrText
	case s[0] != '\\':
		return s[0], 1, api.OK
	case len(s) == 1:
		return 0, 1, api.ErrShort
	}
	switch s[1] {
	case '"', '\\':
		return s[1], 2, api.OK
	case 'n':
		return '\n', 2, api.OK
	case 'x':
		return hex(s)
	}
	return 0, 1, api.ErrText
}

// hexDigits are the digits of an escape by \x, each at the place of its worth.
const hexDigits = "0123456789abcdef"

// hex reads an escape by \x.
func hex(s string) (c byte, n int, e api.Errno) {
	for n = 2; n < 4; n++ {
		if n == len(s) {
			return 0, n, api.ErrShort
		}
		worth := strings.IndexByte(hexDigits, s[n])
		if worth < 0 {
			return 0, n, api.ErrText
		}
		c = c<<4 | byte(worth)
	}
	return c, n, api.OK
}

// noToken is the fault of what begins with no token.
func noToken(s string) (n int, e api.Errno) {
	switch {
	case s[0] != '!':
		return 0, api.ErrText
	case len(s) == 1:
		return 1, api.ErrShort
	}
	return 1, api.ErrText
}

// isLetter tells whether c is one of a to z.
func isLetter(c byte) bool {
	return 'a' <= c && c <= 'z'
}

// isDigit tells whether c is one of 0 to 9.
func isDigit(c byte) bool {
	return '0' <= c && c <= '9'
}

// isOfWord tells whether a word goes on with c.
func isOfWord(c byte) bool {
	return isLetter(c) || isDigit(c) || c == '_'
}

// isPlain tells whether c may stand in a text at all.
func isPlain(c byte) bool {
	return ' ' <= c && c <= '~'
}
