package instr_test

import (
	"bytes"
	"math"
	"slices"
	"strings"
	"testing"

	"prompter/api"
	"prompter/instr"
)

// read is what Read answers.
func read(b []byte) readCode {
	l, n, e := instr.Read(b)
	return readCode{l, n, e}
}

// isRead fails, unless Read answers that.
func isRead(t *testing.T, b []byte, want readCode) {
	t.Helper()
	got := read(b)
	if !slices.Equal(got.code, want.code) || got.n != want.n || got.e != want.e {
		t.Fatalf("Read of %.200q: %s, not %s", b, short(got), short(want))
	}
}

// few are some instructions of all fields.
var few = code(`text "a\x22\x5c\x0a\xff ~"; call 2 pay; int -9223372036854775808; jump 3; eq; load 99; take go; list 2048; bool; text ""; fork 0; child 0 a; int 0`)

func TestBytes(t *testing.T) { // P14.4
	for s, want := range map[string]string{
		"":                         "\x00",
		"end":                      "\x01\x1c",
		"jump 0":                   "\x01\x01\x00",
		"end; branch 1":            "\x02\x1c\x02\x01",
		"or 0; and 1; fork 2":      "\x03\x03\x00\x04\x01\x35\x02",
		"int 300; int -1; int 1":   "\x03\x17\xd8\x04\x17\x01\x17\x02",
		`text "ab"; text ""`:       "\x02\x18\x02ab\x18\x00",
		`text "\x00\xff"`:          "\x01\x18\x02\x00\xff",
		"list 0; list 2048":        "\x02\x19\x00\x19\x80\x10",
		"load 99; store 0":         "\x02\x1a\x63\x1b\x00",
		"call 2 pay; child 128 a":  "\x02\x32\x02\x03pay\x33\x80\x01\x01a",
		"take go; version; settle": "\x03\x38\x02go\x39\x37",
		"eq; at; not; conj; none":  "\x05\x20\x2a\x2b\x30\x14",
	} {
		b, e := instr.Bytes(code(s))
		if string(b) != want || e != api.OK {
			t.Errorf("Bytes of %s: %x, %d", s, b, e)
		}
		isRead(t, []byte(want), readCode{code(s), len(want), api.OK})
	}
	for op := range rows { // each word's own byte
		in := api.Instr{Op: op}
		if rows[op].text == "name" {
			in.Text = "a"
		}
		if b, e := instr.Bytes([]api.Instr{in}); e != api.OK || !bytes.Equal(b, plainBytes([]api.Instr{in})) {
			t.Errorf("Bytes of %s: %x, %d", short(in), b, e)
		}
	}
}

func TestBytesOfNone(t *testing.T) { // P14.4, P14.6
	for _, x := range []struct {
		l []api.Instr
		e api.Errno
	}{
		{make([]api.Instr, 8193), api.ErrLong}, {slices.Repeat(code("end"), 8193), api.ErrLong}, {make([]api.Instr, 8192), api.ErrShape}, {make([]api.Instr, 1), api.ErrShape},
		{[]api.Instr{{Op: api.IJump, A: 1}}, api.ErrShape}, {[]api.Instr{{Op: api.IJump, A: -1}}, api.ErrShape}, {append(code("end; end"), api.Instr{Op: 255}), api.ErrShape},
		{[]api.Instr{{Op: api.IEnd, Int: 1}}, api.ErrShape}, {[]api.Instr{{Op: api.IText, Text: strings.Repeat("a", 4096)}}, api.ErrShape},
	} {
		if b, e := instr.Bytes(x.l); len(b) > 0 || e != x.e {
			t.Errorf("Bytes of %s: %.100x, %d", short(x.l), b, e)
		}
		if s, e := instr.List(x.l); s != "" || e != x.e {
			t.Errorf("List of %s: %.100q, %d", short(x.l), s, e)
		}
	}
	for _, s := range []string{"jump 0", "drop; end", "true", "add; add", "bool; jump 0"} { // right is enough: none of these fits
		if b, e := instr.Bytes(code(s)); !bytes.Equal(b, plainBytes(code(s))) || e != api.OK {
			t.Errorf("Bytes of %s: %x, %d", s, b, e)
		}
		if l, e := instr.List(code(s)); l != plainList(code(s)) || e != api.OK {
			t.Errorf("List of %s: %q, %d", s, l, e)
		}
	}
}

func TestRead(t *testing.T) { // P14.5
	nines := strings.Repeat("\xff", 9)
	for _, x := range []struct {
		b  string
		at int
		e  api.Errno
	}{
		{"", 0, api.ErrShort}, {"\x80", 1, api.ErrShort}, {"\x80\x00", 1, api.ErrShape}, {nines + "\x02", 9, api.ErrShape}, {nines + "\x01", 0, api.ErrLong}, {"\x81\x40", 0, api.ErrLong}, {"\x81\x40\x1c\x1c", 0, api.ErrLong},
		{"\x80\x40", 2, api.ErrShort}, {"\x80\x40\x07", 2, api.ErrShape}, {"\x81\xc0\x00", 2, api.ErrShape}, {"\x80\x80\x80\x80\x10", 0, api.ErrLong}, {"\x81\x80\x80\x80\x80\x80\x80\x80\x80\x01", 0, api.ErrLong},
		{"\x00\x00", 1, api.ErrShape}, {"\x00\x1c", 1, api.ErrShape}, {"\x01\x1c\x00", 2, api.ErrShape}, {"\x01\x1c\x1c", 2, api.ErrShape}, {"\x01", 1, api.ErrShort}, {"\x02\x1c", 2, api.ErrShort},
		{"\x01\x00", 1, api.ErrShape}, {"\x01\x07", 1, api.ErrShape}, {"\x01\x1e", 1, api.ErrShape}, {"\x01\xff", 1, api.ErrShape}, {"\x02\x1c\x3a\x00", 2, api.ErrShape}, {"\x01\x07\x80\x00", 1, api.ErrShape},
		// Targets.
		{"\x01\x01", 2, api.ErrShort}, {"\x01\x01\x80", 3, api.ErrShort}, {"\x01\x01\x80\x00", 3, api.ErrShape}, {"\x01\x01\x01", 1, api.ErrShape}, {"\x02\x1c\x01\x02", 2, api.ErrShape}, {"\x02\x01\x02\x1c", 1, api.ErrShape},
		{"\x02\x01\x02", 1, api.ErrShape}, {"\x02\x01\x02\x07", 1, api.ErrShape}, {"\x01\x01" + nines + "\x01", 1, api.ErrShape}, {"\x01\x01" + nines + "\x02", 11, api.ErrShape}, {"\x01\x02\x80\x80\x80\x80\x10", 1, api.ErrShape},
		{"\x01\x35\x80\x80\x80\x80\x80\x80\x80\x80\x80\x01", 1, api.ErrShape}, {"\x01\x03\x01", 1, api.ErrShape}, {"\x01\x04\x01", 1, api.ErrShape}, {"\x01\x35\x01", 1, api.ErrShape},
		// Slots, counts.
		{"\x01\x1a\x64", 1, api.ErrShape}, {"\x01\x1b\xe3\x00", 3, api.ErrShape}, {"\x01\x1b\xe4\x01", 1, api.ErrShape}, {"\x01\x19\x81\x10", 1, api.ErrShape}, {"\x01\x19\x81\x10\x00", 1, api.ErrShape}, {"\x01\x19", 2, api.ErrShort},
		{"\x01\x1a" + nines + "\x01", 1, api.ErrShape}, {"\x01\x19\x80\x80\x80\x80\x10", 1, api.ErrShape}, {"\x01\x19\x80\x80\x80\x80\x80\x80\x80\x80\x80\x01", 1, api.ErrShape},
		// Whole numbers, texts, names: what is wrong with their bytes goes ahead of what is wrong with the instruction.
		{"\x01\x17", 2, api.ErrShort}, {"\x01\x17\x80\x00", 3, api.ErrShape}, {"\x01\x17" + nines + "\x02", 11, api.ErrShape}, {"\x01\x18", 2, api.ErrShort}, {"\x01\x18\x02a", 4, api.ErrShort}, {"\x01\x18\x80\x00", 3, api.ErrShape},
		{"\x01\x18\x80\x20aaa", 7, api.ErrShort}, {"\x01\x18\x80\x20" + strings.Repeat("a", 4096), 1, api.ErrShape}, {"\x01\x18" + nines + "\x01aa", 14, api.ErrShort},
		{"\x01\x32\x00\x01A", 1, api.ErrShape}, {"\x01\x32\x00\x00", 1, api.ErrShape}, {"\x01\x32\x81\x10", 4, api.ErrShort}, {"\x01\x32\x81\x10\x80\x00", 5, api.ErrShape}, {"\x01\x32\x81\x10\x02a", 6, api.ErrShort},
		{"\x01\x32\x81\x10\x01a", 1, api.ErrShape}, {"\x01\x32\x80\x00\x01a", 3, api.ErrShape}, {"\x01\x33" + nines + "\x01\x01a", 1, api.ErrShape}, {"\x01\x38\x01_", 1, api.ErrShape}, {"\x01\x38\x19" + strings.Repeat("a", 25), 1, api.ErrShape},
		{"\x01\x38\x00", 1, api.ErrShape}, {"\x01\x38", 2, api.ErrShort}, {"\x02\x38\x01A", 1, api.ErrShape}, {"\x02\x38\x01A\x07", 1, api.ErrShape}, {"\x02\x38\x01a\x07", 4, api.ErrShape}, {"\x03\x1c\x38\x01a", 5, api.ErrShort},
	} {
		isRead(t, []byte(x.b), readCode{nil, x.at, x.e})
		isRead(t, []byte(x.b), plainRead([]byte(x.b)))
	}
}

// TestReadCut holds all beginnings of some bytes, and what stands behind them.
func TestReadCut(t *testing.T) { // P14.5, P14.9
	b := plainBytes(few)
	for i := range b {
		isRead(t, b[:i], readCode{nil, i, api.ErrShort})
	}
	isRead(t, b, readCode{few, len(b), api.OK})
	for c := range 256 {
		isRead(t, append(slices.Clone(b), byte(c)), readCode{nil, len(b), api.ErrShape})
		for i := range b { // one byte is another one
			x := slices.Clone(b)
			x[i] = byte(c)
			isRead(t, x, plainRead(x))
			x = slices.Insert(slices.Clone(b), i, byte(c))
			isRead(t, x, plainRead(x))
		}
	}
}

// allBytes hands over all bytes of at most n out of a few, behind those that are told.
func allBytes(few string, n int, ahead string, do func(b []byte)) {
	do([]byte(ahead))
	if n > 0 {
		for i := range len(few) {
			allBytes(few, n-1, ahead+few[i:i+1], do)
		}
	}
}

func TestReadAllShort(t *testing.T) { // P14.5, P14.9
	see := func(b []byte) {
		isRead(t, b, plainRead(b))
		if got := read(b); got.e == api.OK {
			if again, e := instr.Bytes(got.code); !bytes.Equal(again, b) || e != api.OK {
				t.Fatalf("Bytes of Read of %x: %x, %d", b, again, e)
			}
		}
	}
	allBytes("\x00\x01\x02\x17\x18\x1a\x1c\x32\x38a\x80", 5, "", see)
	allBytes("\x00\x01\x02\x18\x33a\x81", 5, "\x01", see)
	allBytes("\x00\x01\x19\x35\x63\x64\x80\xff", 5, "\x02", see)
	for op := range 256 {
		for _, rest := range []string{"", "\x00", "\x01", "\x63", "\x64", "\x80\x10", "\x81\x10", "\x80", "\x80\x00", "\x00\x01a", "\x01\x01A", "\x01a", "\x01A", "\x00\x00", "\x00\x00\x00"} {
			see([]byte("\x01" + string([]byte{byte(op)}) + rest))
			see([]byte("\x02\x1c" + string([]byte{byte(op)}) + rest))
			see([]byte("\x02" + string([]byte{byte(op)}) + rest + "\x1c"))
		}
	}
}

func TestReadStrewn(t *testing.T) { // P14.4, P14.5, P14.9
	d := draws(5)
	for range 20000 {
		l := d.code(d.below(20))
		b, e := instr.Bytes(l)
		if !bytes.Equal(b, plainBytes(l)) || e != api.OK {
			t.Fatalf("Bytes of %s: %x, %d", short(l), b, e)
		}
		isRead(t, b, readCode{l, len(b), api.OK})
		x := slices.Clone(b)
		for range 1 + d.below(3) {
			x[d.below(len(x))] = byte(d.below(256) >> d.below(8))
		}
		isRead(t, x, plainRead(x))
		x = x[:d.below(len(x)+1)]
		isRead(t, x, plainRead(x))
	}
}

func TestReadNumbers(t *testing.T) { // P14.4, P14.5
	for _, x := range []int64{0, 1, -1, 63, 64, -64, -65, 8191, 8192, math.MaxInt32, math.MinInt32, 1 << 62, -1 << 62, math.MaxInt64 - 1, math.MaxInt64, math.MinInt64, math.MinInt64 + 1} {
		l := []api.Instr{{Op: api.IInt, Int: x}}
		b, e := instr.Bytes(l)
		if !bytes.Equal(b, plainBytes(l)) || e != api.OK {
			t.Errorf("Bytes of int %d: %x, %d", x, b, e)
		}
		isRead(t, b, readCode{l, len(b), api.OK})
	}
}
