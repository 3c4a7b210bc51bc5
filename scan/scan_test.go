package scan_test

import (
	"bytes"
	"slices"
	"strings"
	"testing"

	"prompter/api"
	"prompter/code"
	"prompter/scan"
)

// nines is the beginning of numbers of ten bytes.
var nines = strings.Repeat("\xff", 9)

// answered is what a reading came to.
type answered struct {
	l []int
	n int
	e api.Errno
}

// reading is what b is read as, step by step.
func reading(b string, steps ...func(r *scan.Reader) int) answered {
	r := scan.Of([]byte(b))
	var l []int
	for _, step := range steps {
		l = append(l, step(&r))
	}
	l, n, e := scan.Answer(&r, l)
	return answered{l, n, e}
}

// Steps of a reading.
func aByte(r *scan.Reader) int { return int(r.Byte()) }

func anInt(r *scan.Reader) int { return int(scan.Field(r, code.ReadInt)) }

func aText(r *scan.Reader) int { return len(scan.Field(r, code.ReadText)) }

func place(r *scan.Reader) int { return r.Place() }

func count(r *scan.Reader) int { return r.Count(300) }

func capped(r *scan.Reader) int { return r.Capped(300) }

func end(r *scan.Reader) int {
	r.End()
	return 0
}

func refuse(r *scan.Reader) int {
	r.Refuse(1, api.ErrThere)
	return 0
}

func well(r *scan.Reader) int {
	if r.Well() {
		return 1
	}
	return 0
}

func TestReader(t *testing.T) {
	type steps []func(r *scan.Reader) int
	for _, x := range []struct {
		b    string
		do   steps
		want answered
	}{
		{"", nil, answered{nil, 0, api.OK}}, {"", steps{end, well, place}, answered{[]int{0, 1, 0}, 0, api.OK}}, {"a", steps{end, aByte}, answered{nil, 0, api.ErrShape}},
		{"\x05\x03\x02abc", steps{aByte, anInt, aText, place, well, aByte, end}, answered{[]int{5, -2, 2, 5, 1, 'c', 0}, 6, api.OK}}, {"\x05\x03\x02abc", steps{aByte, anInt, aText, end, aByte}, answered{nil, 5, api.ErrShape}},
		{"", steps{aByte}, answered{nil, 0, api.ErrShort}}, {"a", steps{aByte, aByte, aByte, refuse, end}, answered{nil, 1, api.ErrShort}}, {"a\x02b", steps{aByte, aText}, answered{nil, 3, api.ErrShort}}, {"a\x80\x00bc", steps{aByte, anInt, aByte, end, refuse}, answered{nil, 2, api.ErrShape}},
		{"abc", steps{aByte, refuse, aByte, end}, answered{nil, 1, api.ErrThere}}, {"abc", steps{aByte, aByte, refuse}, answered{nil, 1, api.ErrThere}},
		{"\x01\xac\x02", steps{aByte, count, place}, answered{[]int{1, 300, 3}, 3, api.OK}}, {"\x01\xad\x02", steps{aByte, count}, answered{nil, 1, api.ErrLong}}, {"\x01" + nines + "\x01", steps{aByte, count}, answered{nil, 1, api.ErrLong}}, {"\x01" + nines + "\x02", steps{aByte, count}, answered{nil, 10, api.ErrShape}}, {"\x01\x80", steps{aByte, count}, answered{nil, 2, api.ErrShort}},
		{"\x01\xac\x02", steps{aByte, capped, place}, answered{[]int{1, 300, 3}, 3, api.OK}}, {"\x01\xab\x02", steps{aByte, capped}, answered{[]int{1, 299}, 3, api.OK}}, {"\xad\x02", steps{capped}, answered{[]int{300}, 2, api.OK}}, {nines + "\x01", steps{capped}, answered{[]int{300}, 10, api.OK}}, {nines + "\x02", steps{capped}, answered{nil, 9, api.ErrShape}}, {"\x80", steps{capped}, answered{nil, 1, api.ErrShort}},
	} {
		if is := reading(x.b, x.do...); !slices.Equal(is.l, x.want.l) || is.n != x.want.n || is.e != x.want.e {
			t.Errorf("%q: %v, not %v", x.b, is, x.want)
		}
	}
}

// TestBehindAFault holds that nothing more is read behind a fault.
func TestBehindAFault(t *testing.T) {
	b := []byte("\x07\x08\x09")
	r := scan.Of(b)
	r.Refuse(0, api.ErrFull)
	if r.Byte() != 0 || r.Count(9) != 0 || r.Capped(9) != 0 || scan.Field(&r, code.ReadText) != "" || r.Well() || r.Place() != 0 {
		t.Error("something was read behind a fault")
	}
	r.Refuse(2, api.ErrThere)
	r.End()
	if x, n, e := scan.Answer(&r, "x"); x != "" || n != 0 || e != api.ErrFull {
		t.Errorf("Answer: %q, %d, %d", x, n, e)
	}
	if !bytes.Equal(b, []byte("\x07\x08\x09")) {
		t.Errorf("%x was changed", b)
	}
}
