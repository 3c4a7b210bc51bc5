package plane_test

import (
	"testing"

	"prompter/api"
	"prompter/plane"
)

// pairs hands over all pairs of numbers of all kinds.
func pairs(do func(a, b complex128)) {
	l := append(edges(), strewn(15)...)
	for _, a := range l {
		for _, b := range l {
			do(a, b)
		}
	}
}

func TestJustOneIsLess(t *testing.T) { // P2.8
	pairs(func(a, b complex128) {
		if !plane.Fine(a) || !plane.Fine(b) {
			return
		}
		if wanted := !same(a, b); (plane.Less(a, b) != plane.Less(b, a)) != wanted {
			t.Errorf("Less(%v, %v) is %t, turned about %t", a, b, plane.Less(a, b), plane.Less(b, a))
		}
	})
}

func TestTurnedAbout(t *testing.T) { // P2.8
	pairs(func(a, b complex128) {
		for name, do := range map[string]call{"Add": plane.Add, "Mul": plane.Mul} {
			x, e := do(a, b)
			y, f := do(b, a)
			if e != f || !same(x, y) {
				t.Errorf("%s(%v, %v): %v, %d, turned about %v, %d", name, a, b, x, e, y, f)
			}
		}
		x, e := plane.Sub(a, b)
		y, f := plane.Sub(b, a)
		if e != f || !same(x, plane.Neg(y)) {
			t.Errorf("Sub(%v, %v): %v, %d, turned about %v, %d", a, b, x, e, y, f)
		}
	})
}

func TestConjOfReckoned(t *testing.T) { // P2.8
	pairs(func(a, b complex128) {
		for name, do := range map[string]call{"Add": plane.Add, "Sub": plane.Sub, "Mul": plane.Mul, "Div": plane.Div} {
			x, e := do(a, b)
			y, f := do(plane.Conj(a), plane.Conj(b))
			if e != f || !same(plane.Conj(x), y) {
				t.Errorf("%s(%v, %v): %v, %d, of their conjugates %v, %d", name, a, b, x, e, y, f)
			}
		}
	})
}

func TestWholeNumbers(t *testing.T) { // P2.8
	const end = 1 << 20
	some := []int64{0, 1, -1, 2, -3, 10, -100, 65537, -99991, end - 1, end, 1 - end, -end}
	for _, p := range some {
		for _, q := range some {
			for _, r := range some {
				for _, s := range some {
					a, b := plane.Of(p, q), plane.Of(r, s)
					if z, e := plane.Add(a, b); e != api.OK || !same(z, plane.Of(p+r, q+s)) {
						t.Errorf("Add(%v, %v): %v, %d", a, b, z, e)
					}
					if z, e := plane.Sub(a, b); e != api.OK || !same(z, plane.Of(p-r, q-s)) {
						t.Errorf("Sub(%v, %v): %v, %d", a, b, z, e)
					}
					if z, e := plane.Mul(a, b); e != api.OK || !same(z, plane.Of(p*r-q*s, p*s+q*r)) {
						t.Errorf("Mul(%v, %v): %v, %d", a, b, z, e)
					}
				}
			}
		}
	}
}

// TestFineAnswers has all that is told fine (R6), and nothing beside an error.
func TestFineAnswers(t *testing.T) { // P2.2, P2.3
	pairs(func(a, b complex128) {
		for name, do := range map[string]call{"Add": plane.Add, "Sub": plane.Sub, "Mul": plane.Mul, "Div": plane.Div} {
			z, e := do(a, b)
			if !plane.Fine(z) || e != api.OK && z != 0 {
				t.Errorf("%s(%v, %v): %v, %d", name, a, b, z, e)
			}
		}
	})
}
