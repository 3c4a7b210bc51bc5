package instr_test

import (
	"encoding/binary"
	"fmt"
	"math"
	"regexp"
	"slices"
	"strconv"
	"strings"

	"prompter/api"
)

// table is the chapter's: of each instruction its Op, its word, what its A is, whether it has an Int, what its Text is, how many things it takes, and how many it leaves to the next place and to its target (- where it has no such thing).
const table = `
	1 jump target - - 0 - 0
	2 branch target - - 1 0 0
	3 or target - - 1 0 1
	4 and target - - 1 0 1
	5 bool - - - 1 1 -
	6 drop - - - 1 0 -
	8 return - - - 1 - -
	9 fail - - - 1 - -
	10 sleep - - - 1 0 -
	20 none - - - 0 1 -
	21 true - - - 0 1 -
	22 false - - - 0 1 -
	23 int - int - 0 1 -
	24 text - - text 0 1 -
	25 list count - - A 1 -
	26 load slot - - 0 1 -
	27 store slot - - 1 0 -
	28 end - - - 0 - -
	32 eq - - - 2 1 -
	33 ne - - - 2 1 -
	34 lt - - - 2 1 -
	35 le - - - 2 1 -
	36 add - - - 2 1 -
	37 sub - - - 2 1 -
	38 mul - - - 2 1 -
	39 div - - - 2 1 -
	40 mod - - - 2 1 -
	41 num - - - 2 1 -
	42 at - - - 2 1 -
	43 not - - - 1 1 -
	44 neg - - - 1 1 -
	45 len - - - 1 1 -
	46 re - - - 1 1 -
	47 im - - - 1 1 -
	48 conj - - - 1 1 -
	50 call count - name A 1 -
	51 child count - name A 1 -
	52 timer - - - 1 1 -
	53 fork target - - 0 1 fresh
	54 await - - - 1 1 -
	55 settle - - - 1 1 -
	56 take - - name 0 1 -
	57 version - - - 0 1 -
`

// row is a row of the table.
type row struct {
	op                                          byte
	word, a, number, text, takes, leaves, there string
}

// rows are the table's, by their Op.
var rows = func() map[byte]row {
	all := map[byte]row{}
	for line := range strings.Lines(strings.TrimSpace(table)) {
		f := strings.Fields(line)
		op, _ := strconv.Atoi(f[0])
		all[byte(op)] = row{byte(op), f[1], f[2], f[3], f[4], f[5], f[6], f[7]}
	}
	return all
}()

// plainTakes is how many things an instruction takes.
func plainTakes(in api.Instr) int {
	if t := rows[in.Op].takes; t != "A" {
		return int(t[0] - '0')
	}
	return in.A
}

// plainName is the form of a name.
var plainName = regexp.MustCompile(`\A[a-z][a-z0-9_]{0,23}\z`)

// plainShaped tells whether in is right, its target apart.
func plainShaped(in api.Instr) bool {
	r, is := rows[in.Op]
	a := map[string]bool{
		"target": true,
		"slot":   in.A >= 0 && in.A <= 99,
		"count":  in.A >= 0 && in.A <= 2048,
		"-":      in.A == 0,
	}
	text := map[string]bool{
		"text": len(in.Text) <= 4095,
		"name": plainName.MatchString(in.Text),
		"-":    in.Text == "",
	}
	return is && a[r.a] && text[r.text] && (r.number == "int" || in.Int == 0)
}

// plainThere tells whether the target of in, if it has one, is a place of a code of n.
func plainThere(in api.Instr, n int) bool {
	return rows[in.Op].a != "target" || in.A >= 0 && in.A < n
}

// plainWrong is the first instruction that is not right; -1, if all are.
func plainWrong(code []api.Instr) int {
	for i, in := range code {
		if !plainShaped(in) || !plainThere(in, len(code)) {
			return i
		}
	}
	return -1
}

// place is a place with a depth.
type place struct{ at, depth int }

// plainNext are the places that are met from a place with a depth; none, if that is wrong; it may be that one is no place.
func plainNext(code []api.Instr, p place) (next []place, ok bool) {
	in := code[p.at]
	r := rows[in.Op]
	switch {
	case p.depth < plainTakes(in), r.leaves == "-" && r.there == "-" && p.depth != plainTakes(in):
		return nil, false
	}
	rest := p.depth - plainTakes(in)
	switch r.there {
	case "fresh":
		next = append(next, place{in.A, 0})
	case "-":
	default:
		next = append(next, place{in.A, rest + int(r.there[0]-'0')})
	}
	if r.leaves != "-" {
		next = append(next, place{p.at + 1, rest + int(r.leaves[0]-'0')})
	}
	return next, true
}

// plainDepths are the depths of places, -1 of those that were not met; or where it was wrong first.
func plainDepths(code []api.Instr) (depths []int, at int, ok bool) {
	met, gone := slices.Repeat([]int{-1}, len(code)), make([]bool, len(code))
	met[0] = 0
	for i := 0; i < len(code); i++ { // the least place that was met and not gone through, again and again
		if met[i] < 0 || gone[i] {
			continue
		}
		gone[i] = true
		next, ok := plainNext(code, place{i, met[i]})
		if !ok {
			return nil, i, false
		}
		for _, p := range next {
			if p.at >= len(code) || met[p.at] >= 0 && met[p.at] != p.depth {
				return nil, i, false
			}
			met[p.at] = p.depth
		}
		i = -1
	}
	return met, 0, true
}

// plainCircle tells whether from a place one comes to nothing but jumps and bools ever.
func plainCircle(code []api.Instr, at int) bool {
	for range len(code) + 1 {
		switch code[at].Op {
		case api.IJump:
			at = code[at].A
		case api.IBool:
			at++
		default:
			return false
		}
	}
	return true
}

// checked is what Check and Depths answer.
type checked struct {
	slots, stack, at int
	e                api.Errno
	depths           []int
}

// plainCheck is what Check and Depths are to answer, as the chapter says it.
func plainCheck(code []api.Instr, params int) checked {
	switch {
	case params < 0 || params > 100:
		return checked{e: api.ErrArg}
	case len(code) > 8192:
		return checked{e: api.ErrLong}
	case len(code) == 0:
		return checked{e: api.ErrShape}
	}
	if at := plainWrong(code); at >= 0 {
		return checked{at: at, e: api.ErrShape}
	}
	depths, at, ok := plainDepths(code)
	if !ok {
		return checked{at: at, e: api.ErrStack}
	}
	want := checked{slots: params, depths: depths}
	for at, d := range depths {
		if d >= 0 && plainCircle(code, at) {
			return checked{at: at, e: api.ErrStack}
		}
		want.stack = max(want.stack, d)
		if rows[code[at].Op].a == "slot" {
			want.slots = max(want.slots, code[at].A+1)
		}
	}
	return want
}

// plainUint is the bytes of a number from 0 on.
func plainUint(n int) []byte { return binary.AppendUvarint(nil, uint64(n)) }

// plainInstr is the bytes of an instruction.
func plainInstr(in api.Instr) []byte {
	r, b := rows[in.Op], []byte{in.Op}
	if r.a != "-" {
		b = append(b, plainUint(in.A)...)
	}
	if r.number != "-" {
		b = binary.AppendVarint(b, in.Int)
	}
	if r.text != "-" {
		b = append(append(b, plainUint(len(in.Text))...), in.Text...)
	}
	return b
}

// plainBytes is the bytes of right code.
func plainBytes(code []api.Instr) []byte {
	b := plainUint(len(code))
	for _, in := range code {
		b = append(b, plainInstr(in)...)
	}
	return b
}

// plainLine is the line of an instruction.
func plainLine(at int, in api.Instr) string {
	r, s := rows[in.Op], fmt.Sprint(at, " ", rows[in.Op].word)
	if r.a != "-" {
		s += fmt.Sprintf(" %d", in.A)
	}
	if r.number != "-" {
		s += fmt.Sprintf(" %d", in.Int)
	}
	switch r.text {
	case "name":
		s += " " + in.Text
	case "text":
		s += " " + plainQuoted(in.Text)
	}
	return s + "\n"
}

// plainQuoted is a text as it stands in a line.
func plainQuoted(s string) string {
	b := []byte{'"'}
	for _, c := range []byte(s) {
		if c < 0x20 || c > 0x7e || c == '"' || c == '\\' {
			b = fmt.Appendf(b, `\x%02x`, c)
		} else {
			b = append(b, c)
		}
	}
	return string(append(b, '"'))
}

// plainList is the list of right code.
func plainList(code []api.Instr) string {
	var b strings.Builder
	for at, in := range code {
		b.WriteString(plainLine(at, in))
	}
	return b.String()
}

// readCode is what reads code, from bytes or a text, answers.
type readCode struct {
	code []api.Instr
	n    int
	e    api.Errno
}

// plainReadUint is the number that begins at b[at:], and where it ends; or an error and its place.
func plainReadUint(b []byte, at int) (uint64, int, api.Errno) {
	for n := 0; ; n++ {
		switch {
		case at+n == len(b):
			return 0, len(b), api.ErrShort
		case n > 0 && b[at+n] == 0, n == 9 && b[at+n] != 1:
			return 0, at + n, api.ErrShape
		case b[at+n] < 128:
			x, _ := binary.Uvarint(b[at:])
			return x, at + n + 1, api.OK
		}
	}
}

// plainReadInstr is the instruction that begins at b[at:], in a code of n, and where it ends; or an error and its place.
func plainReadInstr(b []byte, at, n int) (in api.Instr, end int, e api.Errno) {
	if at == len(b) {
		return in, at, api.ErrShort
	}
	in.Op, end = b[at], at+1
	r, is := rows[in.Op]
	if !is {
		return in, at, api.ErrShape
	}
	var x uint64
	if r.a != "-" {
		if x, end, e = plainReadUint(b, end); e != api.OK {
			return in, end, e
		}
		in.A = int(min(x, math.MaxInt))
	}
	if r.number != "-" {
		if x, end, e = plainReadUint(b, end); e != api.OK {
			return in, end, e
		}
		in.Int = int64(x / 2)
		if x%2 == 1 {
			in.Int = -in.Int - 1
		}
	}
	if r.text != "-" {
		if x, end, e = plainReadUint(b, end); e != api.OK {
			return in, end, e
		}
		if x > uint64(len(b)-end) {
			return in, len(b), api.ErrShort
		}
		in.Text = string(b[end : end+int(x)])
		end += int(x)
	}
	if !plainShaped(in) || !plainThere(in, n) {
		return in, at, api.ErrShape
	}
	return in, end, api.OK
}

// plainRead is what Read is to answer.
func plainRead(b []byte) readCode {
	n, at, e := plainReadUint(b, 0)
	switch {
	case e != api.OK:
		return readCode{nil, at, e}
	case n > 8192:
		return readCode{nil, 0, api.ErrLong}
	}
	var code []api.Instr
	for range n {
		var in api.Instr
		if in, at, e = plainReadInstr(b, at, int(n)); e != api.OK {
			return readCode{nil, at, e}
		}
		code = append(code, in)
	}
	if at < len(b) {
		return readCode{nil, at, api.ErrShape}
	}
	return readCode{code, at, api.OK}
}

// The forms of what stands in lines.
const (
	formNumber = `(0|-?[1-9][0-9]*)`
	formQuoted = `"((?:[ !#-\[\]-~]|\\x(?:[01][0-9a-f]|22|5c|7f|[89a-f][0-9a-f]))*)"`
)

// forms are the forms of lines, by the Op of what stands there.
var forms = func() map[byte]*regexp.Regexp {
	all := map[byte]*regexp.Regexp{}
	for op, r := range rows {
		s := "(?s)" + `\A(0|[1-9][0-9]*) ` + r.word
		if r.a != "-" {
			s += " " + formNumber
		}
		if r.number != "-" {
			s += " " + formNumber
		}
		s += map[string]string{"-": "", "name": " (.*)", "text": " " + formQuoted}[r.text]
		all[op] = regexp.MustCompile(s + `\z`)
	}
	return all
}()

// plainEscape is the form of an escape.
var plainEscape = regexp.MustCompile(`\\x..`)

// plainReadLine is the instruction of a line that has that number; false, if that is not right, its target apart.
func plainReadLine(s string, at int) (in api.Instr, ok bool) {
	for op, form := range forms {
		m := form.FindStringSubmatch(s)
		if m == nil || m[1] != strconv.Itoa(at) {
			continue
		}
		in, m, r := api.Instr{Op: op}, m[2:], rows[op]
		var err error
		if r.a != "-" {
			in.A, err = strconv.Atoi(m[0])
			m = m[1:]
		}
		if r.number != "-" {
			in.Int, err = strconv.ParseInt(m[0], 10, 64)
		}
		switch r.text {
		case "name":
			in.Text = m[0]
		case "text":
			in.Text = plainEscape.ReplaceAllStringFunc(m[0], func(s string) string {
				c, _ := strconv.ParseUint(s[2:], 16, 8)
				return string([]byte{byte(c)})
			})
		}
		return in, err == nil && plainShaped(in)
	}
	return in, false
}

// plainUnlist is what Unlist is to answer.
func plainUnlist(s string) readCode {
	want := plainLines(s)
	if want.e != api.OK && len(s) > 1048576 {
		return readCode{nil, 0, api.ErrLong}
	}
	return want
}

// plainLines is what Unlist is to answer, if s is not too long.
func plainLines(s string) readCode {
	var code []api.Instr
	for line := range strings.Lines(s) {
		if len(code) == 8192 {
			return readCode{nil, 8192, api.ErrLong}
		}
		text, is := strings.CutSuffix(line, "\n")
		in, ok := plainReadLine(text, len(code))
		if !is || !ok {
			return readCode{nil, len(code), api.ErrText}
		}
		code = append(code, in)
	}
	for at, in := range code {
		if !plainThere(in, len(code)) {
			return readCode{nil, at, api.ErrText}
		}
	}
	return readCode{code, 0, api.OK}
}
