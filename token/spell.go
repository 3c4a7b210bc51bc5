package token

import (
	"strconv"

	"prompter/api"
	"prompter/value"
)

// Spell is the source that tokens make, one behind the other; ErrShape if one is none that All tells, ErrLong if they make no source.
func Spell(l []api.Token) (string, api.Errno) {
	// All tokens are looked at ahead of spelling any: a wrong one goes ahead of what is too long.
	for _, t := range l {
		if !isTold(t) {
			return "", api.ErrShape
		}
	}
	var b []byte
	for i, t := range l {
		if i > 0 {
			b = append(b, ' ')
		}
		b = putToken(b, t)
		if len(b) > api.MaxSource {
			return "", api.ErrLong
		}
	}
	return string(b), api.OK
}

// isTold tells whether All tells such a token.
func isTold(t api.Token) bool {
	wanted := api.Token{Kind: t.Kind, At: t.At}
	right := false
	switch t.Kind {
	case api.TWord:
		wanted.Text, right = t.Text, value.Name(t.Text)
	case api.TInt:
		wanted.Int, right = t.Int, t.Int >= 0
	case api.TText:
		wanted.Text, right = t.Text, len(t.Text) <= maxText
	case api.TSign:
		wanted.Text, right = t.Text, isSign(t.Text)
	}
	return right && t == wanted
}

// isSign tells whether s is a sign.
func isSign(s string) bool {
	for _, sign := range signs {
		if s == sign {
			return true
		}
	}
	return false
}

// putToken puts what a token is spelt as behind b.
func putToken(b []byte, t api.Token) []byte {
	switch t.Kind {
	case api.TInt:
		return strconv.AppendInt(b, t.Int, 10)
	case api.TText:
		return putText(b, t.Text)
	}
	return append(b, t.Text...)
}

// putText puts what a text is spelt as behind b.
func putText(b []byte, s string) []byte {
	b = append(b, '"')
	for i := range len(s) {
		b = putByte(b, s[i])
	}
	return append(b, '"')
}

// putByte puts a byte behind b as it stands in a text.
func putByte(b []byte, c byte) []byte {
	switch {
	case c == '"' || c == '\\':
		return append(b, '\\', c)
	case c == '\n':
		return append(b, '\\', 'n')
	case !isPlain(c):
		return append(b, '\\', 'x', hexDigits[c>>4], hexDigits[c&15])
	}
	return append(b, c)
}
