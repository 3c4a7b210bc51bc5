package instr

import (
	"strconv"
	"strings"

	"prompter/api"
	"prompter/whole"
)

// maxList is how many bytes a text may have that is the list of no code.
const maxList = 1 << 20

// hexDigits are the digits to the base 16, each at the place of its worth.
const hexDigits = "0123456789abcdef"

// List is the text of right code, a line for each instruction.
func List(code []api.Instr) (string, api.Errno) {
	if e := writable(code); e != api.OK {
		return "", e
	}
	var b strings.Builder
	for place, in := range code {
		b.WriteString(line(place, in))
		b.WriteByte('\n')
	}
	return b.String(), api.OK
}

// Unlist is the code whose list s is; or an error and the number of its line.
func Unlist(s string) ([]api.Instr, int, api.Errno) {
	code, at, e := unlist(s)
	if e != api.OK && len(s) > maxList {
		return nil, 0, api.ErrLong
	}
	return code, at, e
}

// unlist is what Unlist says of s, however long it is.
func unlist(s string) ([]api.Instr, int, api.Errno) {
	var code []api.Instr
	for s != "" {
		place := len(code)
		if place == api.MaxCode {
			return nil, place, api.ErrLong
		}
		text, behind, is := strings.Cut(s, "\n")
		in := unline(text)
		if !is || !isShaped(in) || line(place, in) != text {
			return nil, place, api.ErrText
		}
		in.Text = strings.Clone(in.Text) // what is kept of a line shall not keep the whole list
		code, s = append(code, in), behind
	}
	for place, in := range code {
		if !hasTarget(in, len(code)) {
			return nil, place, api.ErrText
		}
	}
	return code, 0, api.OK
}

// line is the line of an instruction at that place, without its line feed.
func line(place int, in api.Instr) string {
	parts := []string{whole.Text(int64(place)), Word(in.Op)}
	f := fieldsOf(in.Op)
	if f.a != nothing {
		parts = append(parts, whole.Text(int64(in.A)))
	}
	if f.int != nothing {
		parts = append(parts, whole.Text(in.Int))
	}
	switch f.text {
	case aText:
		parts = append(parts, quoted(in.Text))
	case aName:
		parts = append(parts, in.Text)
	}
	return strings.Join(parts, " ")
}

// unline is the instruction whose line s is. Of any other text it is some instruction, or none: whoever asks must hold its line against s.
func unline(s string) (in api.Instr) {
	_, s, _ = strings.Cut(s, " ")
	word, s, _ := strings.Cut(s, " ")
	in.Op = opOf(word)
	f := fieldsOf(in.Op)
	if f.a != nothing {
		var number string
		number, s, _ = strings.Cut(s, " ")
		a, _ := whole.Read(number)
		in.A = int(a)
	}
	if f.int != nothing {
		in.Int, _ = whole.Read(s)
	}
	switch f.text {
	case aText:
		in.Text, _ = strconv.Unquote(s) // it reads what quoted writes, and more
	case aName:
		in.Text = s
	}
	return in
}

// quoted is s between quotes, with all but plain bytes as escapes.
func quoted(s string) string {
	b := make([]byte, 0, len(s)+len(`""`))
	b = append(b, '"')
	for i := range len(s) {
		if c := s[i]; isPlain(c) {
			b = append(b, c)
		} else {
			b = append(b, '\\', 'x', hexDigits[c>>4], hexDigits[c&0xf])
		}
	}
	return string(append(b, '"'))
}

// isPlain tells whether c stands in a quoted text as it is.
func isPlain(c byte) bool {
	return ' ' <= c && c <= '~' && c != '"' && c != '\\'
}
