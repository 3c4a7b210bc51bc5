// Package whole is layer 1: whole numbers of 64 bits that never wrap (see shared/doc/01-whole.md).
package whole

import (
	"math"
	"math/bits"

	"prompter/api"
)

const (
	greatest int64 = math.MaxInt64
	least    int64 = math.MinInt64
)

// Int is all signed whole numbers.
type Int interface {
	~int | ~int8 | ~int16 | ~int32 | ~int64
}

// Add is the sum of a and b, held.
func Add(a, b int64) int64 {
	sum := a + b
	if (b < 0) != (sum < a) {
		return end(b < 0)
	}
	return sum
}

// Sub is a less b, held.
func Sub(a, b int64) int64 {
	rest := a - b
	if (b > 0) != (rest < a) {
		return end(b > 0)
	}
	return rest
}

// Mul is the product of a and b, held.
func Mul(a, b int64) int64 {
	minus := (a < 0) != (b < 0)
	high, low := bits.Mul64(sizeOf(a), sizeOf(b))
	if high != 0 || low > room(minus) {
		return end(minus)
	}
	return signed(low, minus)
}

// Neg is nought less a, held.
func Neg(a int64) int64 {
	return Sub(0, a)
}

// Div is the quotient of a by b, cut towards 0, held.
func Div(a, b int64) (int64, api.Errno) {
	if b == 0 {
		return 0, api.ErrZero
	}
	if b == -1 {
		// The language's own quotient of the least by -1 wraps.
		return Neg(a), api.OK
	}
	return a / b, api.OK
}

// Mod is a less b times their quotient, cut towards 0.
func Mod(a, b int64) (int64, api.Errno) {
	if b == 0 {
		return 0, api.ErrZero
	}
	return a % b, api.OK
}

// Shift is a times 2 to the power n, held; n below 0 counts as 0.
func Shift(a int64, n int) int64 {
	if n <= 0 {
		return a
	}
	moved := a << n
	if moved>>n != a {
		return end(a < 0)
	}
	return moved
}

// Clamp is lo if x is below it, else hi if x is above it, else x.
func Clamp[T Int](x, lo, hi T) T {
	switch {
	case x < lo:
		return lo
	case x > hi:
		return hi
	}
	return x
}

// Most is the greatest of l; false if l has none.
func Most[T Int](l []T) (T, bool) {
	if len(l) == 0 {
		return 0, false
	}
	most := l[0]
	for _, x := range l[1:] {
		if x > most {
			most = x
		}
	}
	return most, true
}

// end is the number that one beyond it is held at.
func end(minus bool) int64 {
	if minus {
		return least
	}
	return greatest
}

// room is the size of the end on that side of 0.
func room(minus bool) uint64 {
	return sizeOf(end(minus))
}

// sizeOf is how far a is from 0; the least's own is no int64.
func sizeOf(a int64) uint64 {
	if a < 0 {
		return -uint64(a)
	}
	return uint64(a)
}

// signed is the number of that size, which is at most room(minus), on that side of 0.
func signed(size uint64, minus bool) int64 {
	if minus {
		return int64(-size)
	}
	return int64(size)
}
