package whole_test

import (
	"math"
	"math/big"
	"slices"
	"testing"

	"prompter/api"
	"prompter/whole"
)

const (
	greatest int64 = math.MaxInt64
	least    int64 = math.MinInt64
)

// some is numbers at and about all edges, and some between them that a short rule strews.
func some() []int64 {
	l := []int64{0, 3, -3, 5, -5, 7, -7, 10, -10, 99, -100, 3037000499, 3037000500, -3037000499, -3037000500, greatest / 2, greatest / 3, least / 2, least / 3}
	for _, n := range []int{0, 1, 8, 31, 32, 61, 62, 63} {
		p := int64(1) << n // of 63 this is the least
		l = append(l, p-1, p, p+1, -p-1, -p, -p+1)
	}
	x := uint64(1)
	for n := range 12 {
		x = 6364136223846793005*x + 1442695040888963407
		l = append(l, int64(x)>>(5*n))
	}
	slices.Sort(l)
	return slices.Compact(l)
}

// held is a number of any size, held.
func held(x *big.Int) int64 {
	switch {
	case x.IsInt64():
		return x.Int64()
	case x.Sign() < 0:
		return least
	}
	return greatest
}

// noPanic fails where a call panics.
func noPanic(t *testing.T, f func()) {
	t.Helper()
	defer func() {
		if r := recover(); r != nil {
			t.Errorf("a panic: %v", r)
		}
	}()
	f()
}

func TestSumsOfExamples(t *testing.T) { // P1.1
	for _, x := range []struct {
		call        string
		got, wanted int64
	}{
		{"Add(G, 1)", whole.Add(greatest, 1), greatest},
		{"Add(L, -1)", whole.Add(least, -1), least},
		{"Add(-5, 3)", whole.Add(-5, 3), -2},
		{"Add(G, L)", whole.Add(greatest, least), -1},
		{"Sub(0, L)", whole.Sub(0, least), greatest},
		{"Sub(-1, L)", whole.Sub(-1, least), greatest},
		{"Sub(-2, L)", whole.Sub(-2, least), greatest - 1},
		{"Sub(L, 1)", whole.Sub(least, 1), least},
		{"Sub(7, 9)", whole.Sub(7, 9), -2},
		{"Mul(G, 2)", whole.Mul(greatest, 2), greatest},
		{"Mul(G, -2)", whole.Mul(greatest, -2), least},
		{"Mul(L, -1)", whole.Mul(least, -1), greatest},
		{"Mul(-1, L)", whole.Mul(-1, least), greatest},
		{"Mul(L, 1)", whole.Mul(least, 1), least},
		{"Mul(L, 0)", whole.Mul(least, 0), 0},
		{"Mul(-3, 4)", whole.Mul(-3, 4), -12},
		{"Neg(L)", whole.Neg(least), greatest},
		{"Neg(G)", whole.Neg(greatest), -greatest},
		{"Neg(0)", whole.Neg(0), 0},
		{"Neg(5)", whole.Neg(5), -5},
	} {
		if x.got != x.wanted {
			t.Errorf("%s: %d, not %d", x.call, x.got, x.wanted)
		}
	}
}

func TestSumsOfAny(t *testing.T) { // P1.1
	for _, a := range some() {
		x := big.NewInt(a)
		if got, wanted := whole.Neg(a), held(new(big.Int).Neg(x)); got != wanted {
			t.Errorf("Neg(%d): %d, not %d", a, got, wanted)
		}
		for _, b := range some() {
			y := big.NewInt(b)
			if got, wanted := whole.Add(a, b), held(new(big.Int).Add(x, y)); got != wanted {
				t.Errorf("Add(%d, %d): %d, not %d", a, b, got, wanted)
			}
			if got, wanted := whole.Sub(a, b), held(new(big.Int).Sub(x, y)); got != wanted {
				t.Errorf("Sub(%d, %d): %d, not %d", a, b, got, wanted)
			}
			if got, wanted := whole.Mul(a, b), held(new(big.Int).Mul(x, y)); got != wanted {
				t.Errorf("Mul(%d, %d): %d, not %d", a, b, got, wanted)
			}
		}
	}
}

func TestQuotientsOfExamples(t *testing.T) { // P1.2
	for _, x := range []struct {
		a, b, quotient, rest int64
		e                    api.Errno
	}{
		{7, -2, -3, 1, api.OK}, {-7, 2, -3, -1, api.OK}, {-7, -2, 3, -1, api.OK}, {7, 2, 3, 1, api.OK},
		{least, -1, greatest, 0, api.OK}, {least, 1, least, 0, api.OK}, {greatest, -1, -greatest, 0, api.OK},
		{least, least, 1, 0, api.OK}, {greatest, least, 0, greatest, api.OK}, {least, greatest, -1, -1, api.OK},
		{0, -5, 0, 0, api.OK}, {-6, 3, -2, 0, api.OK},
		{1, 0, 0, 0, api.ErrZero}, {0, 0, 0, 0, api.ErrZero}, {least, 0, 0, 0, api.ErrZero},
	} {
		if q, e := whole.Div(x.a, x.b); q != x.quotient || e != x.e {
			t.Errorf("Div(%d, %d): %d, %d", x.a, x.b, q, e)
		}
		if r, e := whole.Mod(x.a, x.b); r != x.rest || e != x.e {
			t.Errorf("Mod(%d, %d): %d, %d", x.a, x.b, r, e)
		}
	}
}

func TestQuotientsOfAny(t *testing.T) { // P1.2
	for _, a := range some() {
		for _, b := range some() {
			if b == 0 {
				continue
			}
			quotient, rest := new(big.Int).QuoRem(big.NewInt(a), big.NewInt(b), new(big.Int))
			if q, e := whole.Div(a, b); q != held(quotient) || e != api.OK {
				t.Errorf("Div(%d, %d): %d, %d", a, b, q, e)
			}
			if r, e := whole.Mod(a, b); r != held(rest) || e != api.OK {
				t.Errorf("Mod(%d, %d): %d, %d", a, b, r, e)
			}
		}
	}
}

func TestShift(t *testing.T) { // P1.3
	for _, x := range []struct {
		a      int64
		n      int
		wanted int64
	}{
		{3, 2, 12}, {-1, 63, least}, {-1, 64, least}, {1, 63, greatest}, {0, 1000, 0}, {5, -1, 5},
		{1, 62, 1 << 62}, {2, 62, greatest}, {-2, 62, least}, {-3, 62, least}, {1, 64, greatest}, {3, 65, greatest},
		{-7, math.MinInt, -7}, {7, math.MaxInt, greatest}, {-7, math.MaxInt, least}, {0, math.MaxInt, 0},
	} {
		noPanic(t, func() {
			if got := whole.Shift(x.a, x.n); got != x.wanted {
				t.Errorf("Shift(%d, %d): %d, not %d", x.a, x.n, got, x.wanted)
			}
		})
	}
	for _, a := range some() {
		for n := -2; n < 140; n++ {
			if got, wanted := whole.Shift(a, n), held(new(big.Int).Lsh(big.NewInt(a), uint(max(n, 0)))); got != wanted {
				t.Errorf("Shift(%d, %d): %d, not %d", a, n, got, wanted)
			}
		}
	}
}

func TestClamp(t *testing.T) { // P1.4
	for _, x := range [][4]int64{
		{5, 1, 3, 3}, {4, 5, 3, 5}, {5, 5, 3, 3}, {2, 1, 3, 2}, {0, 1, 3, 1}, {1, 1, 3, 1}, {3, 1, 3, 3},
		{2, 5, 3, 5}, {6, 5, 3, 3}, {least, least, greatest, least}, {greatest, least, greatest, greatest}, {0, greatest, least, greatest}, {greatest, greatest, least, least},
	} {
		if got := whole.Clamp(x[0], x[1], x[2]); got != x[3] {
			t.Errorf("Clamp(%d, %d, %d): %d, not %d", x[0], x[1], x[2], got, x[3])
		}
	}
}

type minutes int16

func TestClampOfOtherInts(t *testing.T) { // P1.4
	if got := whole.Clamp(minutes(90), 0, 60); got != 60 {
		t.Errorf("minutes: %d", got)
	}
	if got := whole.Clamp(int8(-128), -127, 127); got != -127 {
		t.Errorf("int8: %d", got)
	}
	if got := whole.Clamp(int32(-5), -9, 9); got != -5 {
		t.Errorf("int32: %d", got)
	}
	if got := whole.Clamp(8, 1, 7); got != 7 {
		t.Errorf("int: %d", got)
	}
}

func TestMost(t *testing.T) { // P1.4
	for _, x := range []struct {
		l    []int64
		most int64
		is   bool
	}{
		{[]int64{3, 9, -1}, 9, true}, {[]int64{9, 3}, 9, true}, {[]int64{3, 9}, 9, true}, {[]int64{4, 4}, 4, true},
		{[]int64{-5, -3, -4}, -3, true}, {[]int64{least}, least, true}, {[]int64{least, greatest}, greatest, true}, {[]int64{0}, 0, true},
		{nil, 0, false}, {[]int64{}, 0, false},
	} {
		if most, is := whole.Most(x.l); most != x.most || is != x.is {
			t.Errorf("Most(%v): %d, %t", x.l, most, is)
		}
	}
	if most, is := whole.Most([]minutes{-2, 7, 3}); most != 7 || !is {
		t.Errorf("Most of minutes: %d, %t", most, is)
	}
	if most, is := whole.Most([]int8(nil)); most != 0 || is {
		t.Errorf("Most of no int8: %d, %t", most, is)
	}
}

func TestListIsOnlyRead(t *testing.T) { // P1.6
	spare := []int64{3, 9, -1, 40, 41}
	if most, is := whole.Most(spare[:3]); most != 9 || !is {
		t.Errorf("Most: %d, %t", most, is)
	}
	if !slices.Equal(spare, []int64{3, 9, -1, 40, 41}) {
		t.Errorf("the list has become %v", spare)
	}
}

func TestTurnedAbout(t *testing.T) { // P1.7
	for _, a := range some() {
		for _, b := range some() {
			if whole.Add(a, b) != whole.Add(b, a) || whole.Mul(a, b) != whole.Mul(b, a) {
				t.Errorf("%d and %d, turned about", a, b)
			}
		}
	}
}

func TestSumsRise(t *testing.T) { // P1.7
	l := some() // in order
	for _, c := range l {
		for i, b := range l {
			for _, a := range l[:i+1] {
				if whole.Add(a, c) > whole.Add(b, c) {
					t.Errorf("%d is at most %d, but not with %d", a, b, c)
				}
			}
		}
	}
}

func TestQuotientAndRest(t *testing.T) { // P1.7
	for _, a := range some() {
		for _, b := range some() {
			if b == 0 || a == least && b == -1 {
				continue
			}
			q, _ := whole.Div(a, b)
			r, _ := whole.Mod(a, b)
			if got := whole.Add(whole.Mul(q, b), r); got != a {
				t.Errorf("%d by %d: %d times, and %d left, is %d", a, b, q, r, got)
			}
			if r != 0 && (r < 0) != (a < 0) {
				t.Errorf("%d by %d: %d is left", a, b, r)
			}
		}
	}
}
