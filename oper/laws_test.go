package oper_test

import (
	"slices"
	"strings"
	"testing"

	"prompter/api"
	"prompter/oper"
	"prompter/value"
)

// draws are numbers that a short rule strews.
type draws uint64

func (d *draws) below(n int) int {
	*d = 6364136223846793005**d + 1442695040888963407
	return int(*d>>33) % n
}

// one is a value, with lists in one another down to that depth; small ones, so that many are the same.
func (d *draws) one(depth int) api.Value {
	if depth > 0 && d.below(3) == 0 {
		return d.row(depth)
	}
	small := []int64{least, -2, -1, 0, 1, 2, 3, greatest}
	switch d.below(8) {
	case 0:
		return none
	case 1:
		return truth(d.below(2) == 0)
	case 2, 3:
		return in(small[d.below(len(small))])
	case 4, 5:
		return text("abaé\xff\x00bab"[:d.below(11)])
	}
	parts := []float64{-most, -1.5, -1, 0, tiniest, 1, 2, 1e200}
	return num(complex(parts[d.below(len(parts))], parts[d.below(len(parts))]))
}

// row is a list of a few values.
func (d *draws) row(depth int) api.Value {
	l := make([]api.Value, d.below(5))
	for i := range l {
		l[i] = d.one(depth - 1)
	}
	return list(l...)
}

// TestStrewn holds both calls, of strewn values, against the chapter's table; all that is answered is right.
func TestStrewn(t *testing.T) { // P12.1, P12.2, P12.3, P12.5
	d, table := draws(12), lines()
	for range 40000 {
		a, b := d.one(3), d.one(3)
		if d.below(4) == 0 { // of one kind, as most operators want them
			a, b = d.row(3), d.row(3)
		}
		for op := byte(api.OEq); op <= api.OConj; op++ {
			var v, want api.Value
			var e, err api.Errno
			if op <= api.OAt {
				v, e = oper.Binary(op, a, b)
				want, err = plainBinary(table, op, a, b)
			} else {
				v, e = oper.Unary(op, a)
				want, err = plainUnary(op, a)
			}
			isValue(t, "the operator", op, []api.Value{a, b}, v, e, want, err)
			isRight(t, v, e)
		}
		v, e := oper.List([]api.Value{a, b, a})
		isValue(t, "List", 0, []api.Value{a, b, a}, v, e, list(a, b, a), api.OK)
		isRight(t, v, e)
		if t.Failed() {
			return
		}
	}
}

// isRight fails unless v is a right value, or there is an error and no value.
func isRight(t *testing.T, v api.Value, e api.Errno) {
	t.Helper()
	if e == api.OK && value.Check(v) != api.OK || e != api.OK && len(v) != 0 {
		t.Errorf("%s, %d is answered", told(v), e)
	}
}

// TestJustOne holds any two whole numbers, any two texts: just one of a < b, a == b, b < a is true.
func TestJustOne(t *testing.T) { // P12.5
	all := samples()
	d := draws(3)
	for range 300 {
		all = append(all, d.one(0))
	}
	is := func(op byte, a, b api.Value) int {
		v, e := oper.Binary(op, a, b)
		if e != api.OK {
			t.Fatalf("Binary(%d, %s, %s): %d", op, told(a), told(b), e)
		}
		if b, e := oper.Truth(v); e != api.OK || !b {
			return 0
		}
		return 1
	}
	for _, kind := range []byte{api.KInt, api.KText} {
		for _, a := range all {
			for _, b := range all {
				if a[0].Kind != kind || b[0].Kind != kind {
					continue
				}
				less, equal, more := is(api.OLt, a, b), is(api.OEq, a, b), is(api.OLt, b, a)
				if less+equal+more != 1 || is(api.OLe, a, b) != less+equal || is(api.ONe, a, b) != 1-equal {
					t.Errorf("%s and %s: %d, %d, %d", told(a), told(b), less, equal, more)
				}
			}
		}
	}
}

// TestPlaces holds what was put together of two texts, two lists: its length, and what stands at each place.
func TestPlaces(t *testing.T) { // P12.5
	d := draws(7)
	length := func(v api.Value) int64 {
		n, e := oper.Unary(api.OLen, v)
		if e != api.OK {
			t.Fatalf("Unary(OLen, %s): %d", told(v), e)
		}
		return n[0].Int
	}
	for range 3000 {
		a, b := d.row(3), d.row(3)
		if d.below(2) == 0 {
			a, b = text("\x00abé\xff"[:d.below(7)]), text(strings.Repeat("aé\xffb", d.below(9)))
		}
		sum, e := oper.Binary(api.OAdd, a, b)
		if e != api.OK || length(sum) != length(a)+length(b) {
			t.Fatalf("Binary(OAdd, %s, %s): %s, %d", told(a), told(b), told(sum), e)
		}
		for place := int64(-2); place < length(sum)+3; place++ {
			from, there := a, place
			if place >= length(a) {
				from, there = b, place-length(a)
			}
			want, err := oper.Binary(api.OAt, from, in(there))
			isBinary(t, api.OAt, sum, in(place), want, err)
			if (err == api.OK) != (0 <= place && place < length(sum)) {
				t.Errorf("Binary(OAt, %s, %d): %d", told(from), there, err)
			}
		}
	}
}

// roomy is v with spare room behind it, in which there is something.
func roomy(v api.Value) api.Value {
	return slices.Concat(v, row(20, in(77)))[:len(v)]
}

// untouched fails unless v has what it had, and its spare room too.
func untouched(t *testing.T, v, had api.Value) {
	t.Helper()
	if !same(v[:len(v)+21], slices.Concat(had, row(20, in(77)))) {
		t.Errorf("%s, and what is behind it, has become %s", told(had), told(v[:len(v)+21]))
	}
}

// spoil writes into all that v has, its spare room too.
func spoil(v api.Value) {
	for i := range v[:cap(v)] {
		v[:cap(v)][i] = api.Node{Kind: 9, Text: "spoilt"}
	}
}

// isOwn fails unless a call leaves what is handed in as it was, and answers memory that is its own each time.
func isOwn(t *testing.T, handed []api.Value, call func(l []api.Value) api.Value) {
	t.Helper()
	l := make([]api.Value, 0, len(handed)+3)
	for _, v := range handed {
		l = append(l, roomy(v))
	}
	first, second, third := call(l), call(l), call(l)
	want := slices.Clone(first)
	spoil(first)
	for i, v := range l {
		untouched(t, v, handed[i])
	}
	for _, v := range l[len(l):cap(l)] {
		if v != nil {
			t.Errorf("the spare room has become %s", told(v))
		}
	}
	if !same(second, want) {
		t.Errorf("%s has become %s with another answer", told(want), told(second))
	}
	spoil(append(second, none...))
	if !same(third, want) {
		t.Errorf("%s has become %s with another answer", told(want), told(third))
	}
	for _, v := range l {
		spoil(v)
	}
	if !same(third, want) {
		t.Errorf("%s has become %s with what was handed in", told(want), told(third))
	}
}

func TestNewMemory(t *testing.T) { // P12.4
	few := []api.Value{none, yes, in(3), in(0), in(1), text("abcd"), num(5 - 7i), num(0), list(), list(in(1), list(text("a"), none), yes), row(30, in(77)), {{Kind: 6}}}
	for op := byte(api.OEq); op <= api.OConj; op++ {
		for _, a := range few {
			isOwn(t, []api.Value{a}, func(l []api.Value) api.Value {
				v, _ := oper.Unary(op, l[0])
				return v
			})
			for _, b := range few {
				isOwn(t, []api.Value{a, b}, func(l []api.Value) api.Value {
					v, _ := oper.Binary(op, l[0], l[1])
					return v
				})
			}
		}
	}
	for n := range few {
		isOwn(t, few[:n], func(l []api.Value) api.Value {
			v, _ := oper.List(l)
			return v
		})
	}
	for _, v := range few {
		handed := roomy(v)
		oper.Truth(handed)
		untouched(t, handed, v)
	}
}

// TestOneValueTwice hands in one value as both, and one as the other's part.
func TestOneValueTwice(t *testing.T) { // P12.4
	v := list(in(1), list(text("a")), no)
	isBinary(t, api.OAdd, v, v, list(in(1), list(text("a")), no, in(1), list(text("a")), no), api.OK)
	isBinary(t, api.OAdd, v, v[2:4], list(in(1), list(text("a")), no, text("a")), api.OK)
	isBinary(t, api.OAdd, v[2:4], v, list(text("a"), in(1), list(text("a")), no), api.OK)
	isBinary(t, api.OAdd, v[3:4], v[3:4], text("aa"), api.OK)
	isBinary(t, api.OAt, v, v[1:2], list(text("a")), api.OK)
	isBinary(t, api.OEq, v, v, yes, api.OK)
	isList(t, []api.Value{v, v[2:4], v}, list(v, list(text("a")), v), api.OK)
	if !same(v, list(in(1), list(text("a")), no)) {
		t.Errorf("what was handed in has become %s", told(v))
	}
}
