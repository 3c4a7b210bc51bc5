package plane_test

import (
	"math"
	"math/big"
	"testing"

	"prompter/api"
	"prompter/plane"
)

const (
	most     = math.MaxFloat64
	tiniest  = math.SmallestNonzeroFloat64
	greatest = int64(math.MaxInt64)
	least    = int64(math.MinInt64)
)

var (
	minus    = math.Copysign(0, -1)
	infinite = math.Inf(1)
	nan      = math.NaN()
)

// call is one of the four that reckon.
type call = func(a, b complex128) (complex128, api.Errno)

// reckoned is a call's answer, and what the chapter asks of it.
type reckoned struct {
	name   string
	do     call
	a, b   complex128
	wanted complex128
	e      api.Errno
}

func tryAll(t *testing.T, lines []reckoned) {
	t.Helper()
	for _, x := range lines {
		if z, e := x.do(x.a, x.b); e != x.e || !same(z, x.wanted) {
			t.Errorf("%s(%v, %v): %v, %d, not %v, %d", x.name, x.a, x.b, z, e, x.wanted, x.e)
		}
	}
}

// same tells whether the bits of both are the same; all NaNs count as one.
func same(a, b complex128) bool {
	return samePart(real(a), real(b)) && samePart(imag(a), imag(b))
}

func samePart(x, y float64) bool {
	return math.IsNaN(x) && math.IsNaN(y) || math.Float64bits(x) == math.Float64bits(y)
}

// numbers are all that have these parts.
func numbers(parts []float64) []complex128 {
	var l []complex128
	for _, re := range parts {
		for _, im := range parts {
			l = append(l, complex(re, im))
		}
	}
	return l
}

// edges are numbers of all kinds: fine, with noughts with a minus, infinite, NaN.
func edges() []complex128 {
	return numbers([]float64{0, minus, 1, -3, 0.1, tiniest, -0x1p-1022, 1e200, -1e-200, most, -most, infinite, -infinite, nan})
}

// strewn are n pairs of fine numbers that a short rule strews, with parts of sizes far apart at first, then of about one size; a pair's second one has the parts of the first one turned about.
func strewn(n int) []complex128 {
	x := uint64(1)
	draw := func() uint64 {
		x = 6364136223846793005*x + 1442695040888963407
		return x >> 11
	}
	part := func(spread uint64) float64 {
		size := float64(draw())
		if draw()>>52 == 0 {
			size = -size
		}
		return math.Ldexp(size, int(draw()>>20%spread)-60)
	}
	var l []complex128
	for i := range n {
		spread := uint64(60)
		if i > n/2 {
			spread = 2
		}
		re, im := part(spread), part(spread)
		l = append(l, complex(re, im), complex(im, re))
	}
	return l
}

// exact is what op makes of x and y, without any rounding, then rounded once.
func exact(x, y float64, op func(z, x, y *big.Rat) *big.Rat) float64 {
	f, _ := op(new(big.Rat), new(big.Rat).SetFloat64(x), new(big.Rat).SetFloat64(y)).Float64()
	return f
}

func isFinite(l ...float64) bool {
	for _, x := range l {
		if math.IsNaN(x) || math.IsInf(x, 0) {
			return false
		}
	}
	return true
}

// sum, rest, product and quotient are rounded by themselves; what is not finite is left to the language.
func sum(x, y float64) float64 {
	if !isFinite(x, y) {
		return x + y
	}
	return exact(x, y, (*big.Rat).Add)
}

func rest(x, y float64) float64 {
	if !isFinite(x, y) {
		return x - y
	}
	return exact(x, y, (*big.Rat).Sub)
}

func product(x, y float64) float64 {
	if !isFinite(x, y) {
		return x * y
	}
	return exact(x, y, (*big.Rat).Mul)
}

func quotient(x, y float64) float64 {
	if !isFinite(x, y) || y == 0 {
		return x / y
	}
	return exact(x, y, (*big.Rat).Quo)
}

// wanted is what the chapter asks of a call.
type wanted func(a, b complex128) (re, im float64)

func wantedAdd(a, b complex128) (re, im float64) {
	return sum(real(a), real(b)), sum(imag(a), imag(b))
}

func wantedSub(a, b complex128) (re, im float64) {
	return rest(real(a), real(b)), rest(imag(a), imag(b))
}

func wantedMul(a, b complex128) (re, im float64) {
	p, q, r, s := real(a), imag(a), real(b), imag(b)
	return rest(product(p, r), product(q, s)), sum(product(p, s), product(q, r))
}

func wantedDiv(a, b complex128) (re, im float64) {
	p, q, r, s := real(a), imag(a), real(b), imag(b)
	if math.Abs(r) >= math.Abs(s) {
		k := quotient(s, r)
		t := sum(r, product(s, k))
		return quotient(sum(p, product(q, k)), t), quotient(rest(q, product(p, k)), t)
	}
	k := quotient(r, s)
	t := sum(product(r, k), s)
	return quotient(sum(product(p, k), q), t), quotient(rest(product(q, k), p), t)
}

// hold holds a call against what is wanted of it, for all pairs of l.
func hold(t *testing.T, name string, do call, what wanted, l []complex128) {
	t.Helper()
	for _, a := range l {
		for _, b := range l {
			z, e := do(a, b)
			want, no := complex(0, 0), api.ErrRange
			if name == "Div" && real(b) == 0 && imag(b) == 0 {
				no = api.ErrZero
			} else if isFinite(real(a), imag(a), real(b), imag(b)) {
				if re, im := what(a, b); isFinite(re, im) {
					want, no = complex(re+0, im+0), api.OK // a nought with a minus and 0 are 0
				}
			}
			if e != no || !same(z, want) {
				t.Errorf("%s(%v, %v): %v, %d, not %v, %d", name, a, b, z, e, want, no)
			}
		}
	}
}

func TestOf(t *testing.T) { // P2.1
	for _, x := range []struct {
		re, im int64
		wanted complex128
	}{
		{0, 0, 0}, {3, -4, 3 - 4i}, {-3, 0, -3}, {0, 7, 7i},
		{1<<53 - 1, 1 << 53, complex(1<<53-1, 1<<53)},
		{1<<53 + 1, 1<<53 + 3, complex(1<<53, 1<<53+4)}, // halfway: to the one whose last bit is 0
		{-1<<53 - 1, -1<<53 - 3, complex(-1<<53, -1<<53-4)},
		{1<<54 + 1, 1<<54 + 3, complex(1<<54, 1<<54+4)}, // not halfway
		{greatest, least, complex(1<<63, -1<<63)},
		{greatest - 511, greatest - 512, complex(1<<63, 1<<63-1024)},
	} {
		if z := plane.Of(x.re, x.im); !same(z, x.wanted) {
			t.Errorf("Of(%d, %d): %v, not %v", x.re, x.im, z, x.wanted)
		}
	}
}

func TestPlain(t *testing.T) { // P2.1
	for _, x := range [][2]complex128{
		{0, 0}, {complex(minus, 1), 1i}, {complex(1, minus), 1}, {complex(minus, minus), 0}, {complex(minus, nan), complex(0, nan)},
		{2 - 3i, 2 - 3i}, {complex(-tiniest, tiniest), complex(-tiniest, tiniest)}, {complex(infinite, -infinite), complex(infinite, -infinite)},
		{complex(nan, minus), complex(nan, 0)}, {complex(-most, most), complex(-most, most)},
	} {
		if z := plane.Plain(x[0]); !same(z, x[1]) {
			t.Errorf("Plain(%v): %v", x[0], z)
		}
	}
}

func TestFine(t *testing.T) { // P2.1
	for _, z := range []complex128{0, 2i, -1, 1 - 1i, complex(most, -most), complex(tiniest, -tiniest), -0x1p-1022} {
		if !plane.Fine(z) {
			t.Errorf("Fine(%v): false", z)
		}
	}
	for _, part := range []float64{minus, infinite, -infinite, nan, -nan} {
		for _, z := range []complex128{complex(part, 1), complex(1, part), complex(part, 0), complex(0, part), complex(part, part)} {
			if plane.Fine(z) {
				t.Errorf("Fine(%v): true", z)
			}
		}
	}
}

func TestSums(t *testing.T) { // P2.2
	add, sub := plane.Add, plane.Sub
	tryAll(t, []reckoned{
		{"Add", add, 1 + 2i, 3 - 2i, 4, api.OK},
		{"Add", add, 1 + 2i, 30 + 40i, 31 + 42i, api.OK},
		{"Add", add, complex(minus, minus), complex(minus, minus), 0, api.OK},
		{"Add", add, 1 << 53, 1 + 3i, complex(1<<53, 3), api.OK},
		{"Add", add, complex(most, 0), complex(most, 0), 0, api.ErrRange},
		{"Add", add, complex(0, -most), complex(0, -most), 0, api.ErrRange},
		{"Add", add, complex(most, 0), complex(-most, 0), 0, api.OK},
		{"Add", add, complex(infinite, 0), 0, 0, api.ErrRange},
		{"Add", add, 0, complex(0, nan), 0, api.ErrRange},
		{"Sub", sub, 1 + 2i, 1 + 2i, 0, api.OK},
		{"Sub", sub, 1 + 2i, 30 + 50i, -29 - 48i, api.OK},
		{"Sub", sub, complex(minus, minus), 0, 0, api.OK},
		{"Sub", sub, complex(-most, 0), complex(most, 0), 0, api.ErrRange},
		{"Sub", sub, complex(0, most), complex(0, -most), 0, api.ErrRange},
		{"Sub", sub, complex(infinite, 0), complex(infinite, 0), 0, api.ErrRange},
		{"Sub", sub, complex(0, nan), 1, 0, api.ErrRange},
	})
	hold(t, "Add", add, wantedAdd, edges())
	hold(t, "Sub", sub, wantedSub, edges())
	hold(t, "Add", add, wantedAdd, strewn(40))
	hold(t, "Sub", sub, wantedSub, strewn(40))
}

func TestProducts(t *testing.T) { // P2.2
	mul := plane.Mul
	tryAll(t, []reckoned{
		{"Mul", mul, 1 + 2i, 3 - 1i, 5 + 5i, api.OK},
		{"Mul", mul, 1i, 1i, -1, api.OK},
		{"Mul", mul, 0, -5, 0, api.OK},
		{"Mul", mul, -5, 0, 0, api.OK},
		{"Mul", mul, complex(-tiniest, 0), 0.25, 0, api.OK},
		{"Mul", mul, 1e200, 1e200, 0, api.ErrRange},
		{"Mul", mul, 1e200i, 1e200, 0, api.ErrRange},
		{"Mul", mul, 1e200 + 1e200i, 1e200 + 1e200i, 0, api.ErrRange}, // infinity less infinity
		{"Mul", mul, complex(infinite, 0), 0, 0, api.ErrRange},
		{"Mul", mul, 0, complex(0, nan), 0, api.ErrRange},
		// In one step with the sum the second product would not be rounded, and both parts not be these.
		{"Mul", mul, complex(1+0x1p-30, 1+0x1p-30), complex(1+0x1p-30, 1+0x1p-30), complex(0, 2+0x1p-28), api.OK},
		{"Mul", mul, complex(1+0x1p-30, 1+0x1p-30), complex(1+0x1p-30, -1-0x1p-30), complex(2+0x1p-28, 0), api.OK},
	})
	hold(t, "Mul", mul, wantedMul, edges())
	hold(t, "Mul", mul, wantedMul, strewn(40))
}

func TestQuotients(t *testing.T) { // P2.3
	div := plane.Div
	tryAll(t, []reckoned{
		{"Div", div, -4 + 8i, 2 + 2i, 1 + 3i, api.OK},
		{"Div", div, 1i, 2, 0.5i, api.OK},
		{"Div", div, 6i, 3i, 2, api.OK},
		{"Div", div, 6, -3i, 2i, api.OK},
		{"Div", div, 3 + 4i, 1 + 2i, 2.2 - 0.4i, api.OK},
		{"Div", div, 3 + 4i, 2 + 1i, 2 + 1i, api.OK},
		{"Div", div, 0, -7, 0, api.OK},
		{"Div", div, 1, 0, 0, api.ErrZero},
		{"Div", div, 0, 0, 0, api.ErrZero},
		{"Div", div, 1, complex(0, minus), 0, api.ErrZero},
		{"Div", div, 1, complex(minus, 0), 0, api.ErrZero},
		{"Div", div, 1, complex(minus, minus), 0, api.ErrZero},
		{"Div", div, complex(nan, 0), 0, 0, api.ErrZero},
		{"Div", div, complex(0, infinite), complex(minus, 0), 0, api.ErrZero},
		{"Div", div, complex(nan, 0), 1, 0, api.ErrRange},
		{"Div", div, complex(0, infinite), 1, 0, api.ErrRange},
		{"Div", div, 1, complex(infinite, 0), 0, api.ErrRange},
		{"Div", div, 1, complex(0, infinite), 0, api.ErrRange},
		{"Div", div, 1, complex(nan, 0), 0, api.ErrRange},
		{"Div", div, 1, complex(0, nan), 0, api.ErrRange},
		{"Div", div, 1, complex(tiniest, 0), 0, api.ErrRange},
		{"Div", div, 1, complex(0, tiniest), 0, api.ErrRange},
		// Sizes far apart, and squares beyond the range.
		{"Div", div, 1e200 + 1e200i, 1e200 + 1e200i, 1, api.OK},
		{"Div", div, 1e-200i, 1e-200, 1i, api.OK},
		{"Div", div, 1, 1e-200 + 1e200i, -1e-200i, api.OK},
		{"Div", div, 1, 1e200 + 1e-200i, 1e-200, api.OK},
		// What is not finite on the way counts only if a part of the quotient is not finite.
		{"Div", div, 1, complex(most, most), 0, api.OK},
		{"Div", div, complex(most, most), complex(most, most), 0, api.ErrRange},
		{"Div", div, complex(most, most), 1 + 1i, 0, api.ErrRange},
	})
	hold(t, "Div", div, wantedDiv, edges())
	hold(t, "Div", div, wantedDiv, strewn(40))
}

func TestTurned(t *testing.T) { // P2.4
	for _, x := range [][3]complex128{
		{0, 0, 0}, {3, -3, 3}, {1 - 2i, -1 + 2i, 1 + 2i}, {-2i, 2i, 2i}, {complex(minus, minus), 0, 0},
		{complex(most, tiniest), complex(-most, -tiniest), complex(most, -tiniest)},
		{complex(infinite, -infinite), complex(-infinite, infinite), complex(infinite, infinite)},
		{complex(nan, 1), complex(nan, -1), complex(nan, -1)},
		{complex(1, nan), complex(-1, nan), complex(1, nan)},
		{complex(minus, nan), complex(0, nan), complex(0, nan)},
	} {
		if z := plane.Neg(x[0]); !same(z, x[1]) {
			t.Errorf("Neg(%v): %v", x[0], z)
		}
		if z := plane.Conj(x[0]); !same(z, x[2]) {
			t.Errorf("Conj(%v): %v", x[0], z)
		}
	}
}

func TestLess(t *testing.T) { // P2.5
	for _, x := range []struct {
		a, b complex128
		is   bool
	}{
		{1 + 5i, 2, true}, {2, 1 + 5i, false}, {2, 2 + 1i, true}, {2 + 1i, 2, false}, {2 + 1i, 2 + 1i, false}, {-1i, 0, true},
		{0, complex(minus, 0), false}, {complex(minus, minus), 0, false}, {complex(minus, 0), 1i, true}, {0, complex(minus, 1), true}, {1, complex(1, minus), false}, {complex(1, minus), 1, false},
		{complex(-infinite, 0), 0, true}, {complex(infinite, 1), complex(infinite, 2), true}, {complex(most, 0), complex(infinite, 0), true}, {complex(infinite, 0), complex(infinite, 0), false},
		{complex(nan, 0), 1, false}, {1, complex(nan, 0), false}, {complex(nan, 0), complex(nan, 1), false}, {complex(1, nan), complex(1, nan), false},
		{complex(1, nan), complex(1, 2), false}, {complex(1, 2), complex(1, nan), false}, {complex(1, nan), 2, true}, {1, complex(2, nan), true},
	} {
		if is := plane.Less(x.a, x.b); is != x.is {
			t.Errorf("Less(%v, %v): %t", x.a, x.b, is)
		}
	}
}

func TestParts(t *testing.T) { // P2.6
	for _, x := range []struct {
		part   float64
		wanted int64
	}{
		{0, 0}, {minus, 0}, {7, 7}, {-7, -7}, {2.9, 2}, {-2.9, -2}, {0.99, 0}, {-0.99, 0}, {tiniest, 0}, {-tiniest, 0},
		{1<<52 - 0.5, 1<<52 - 1}, {1 << 62, 1 << 62}, {1<<63 - 1024, greatest - 1023}, {1 << 63, greatest}, {1<<63 + 2048, greatest}, {1 << 64, greatest}, {1e30, greatest}, {most, greatest}, {infinite, greatest},
		{-1<<63 + 1024, least + 1024}, {-1 << 63, least}, {-1<<63 - 2048, least}, {-1 << 64, least}, {-most, least}, {-infinite, least},
		{nan, 0}, {-nan, 0},
	} {
		if re, im := plane.Parts(complex(x.part, 5)); re != x.wanted || im != 5 {
			t.Errorf("Parts(%v, 5): %d, %d", x.part, re, im)
		}
		if re, im := plane.Parts(complex(-5, x.part)); re != -5 || im != x.wanted {
			t.Errorf("Parts(-5, %v): %d, %d", x.part, re, im)
		}
	}
	if re, im := plane.Parts(complex(-2.9, 1e30)); re != -2 || im != greatest {
		t.Errorf("Parts(-2.9+1e30i): %d, %d", re, im)
	}
}
