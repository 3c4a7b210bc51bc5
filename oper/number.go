package oper

import (
	"cmp"

	"prompter/api"
	"prompter/plane"
	"prompter/value"
	"prompter/whole"
)

// art is how numbers of one type are reckoned, each operator by a call of two (nil: not at all), and which value a number is.
type art[T int64 | complex128] struct {
	add, sub, mul, div, mod func(x, y T) (T, api.Errno)
	put                     func(x T) (api.Value, api.Errno)
}

// integers is how whole numbers are reckoned.
func integers() art[int64] {
	return art[int64]{
		add: sure(whole.Add),
		sub: sure(whole.Sub),
		mul: sure(whole.Mul),
		div: whole.Div,
		mod: whole.Mod,
		put: func(x int64) (api.Value, api.Errno) { return value.Int(x), api.OK },
	}
}

// complexes is how complex numbers are reckoned.
func complexes() art[complex128] {
	return art[complex128]{
		add: plane.Add,
		sub: plane.Sub,
		mul: plane.Mul,
		div: plane.Div,
		put: value.Num,
	}
}

// sure is do, as a call that might go wrong.
func sure(do func(x, y int64) int64) func(x, y int64) (int64, api.Errno) {
	return func(x, y int64) (int64, api.Errno) { return do(x, y), api.OK }
}

// reckoned is what an operator makes of two numbers of one type, by their art.
func reckoned[T int64 | complex128](op byte, x, y T, by art[T]) (api.Value, api.Errno) {
	var do func(x, y T) (T, api.Errno)
	switch op {
	case api.OAdd:
		do = by.add
	case api.OSub:
		do = by.sub
	case api.OMul:
		do = by.mul
	case api.ODiv:
		do = by.div
	case api.OMod:
		do = by.mod
	}
	if do == nil {
		return nil, api.ErrType
	}
	z, e := do(x, y)
	if e != api.OK {
		return nil, e
	}
	return by.put(z)
}

// compared is what OLt and OLe tell of x and y.
func compared[T cmp.Ordered](op byte, x, y T) api.Value {
	return value.Bool(x < y || x == y && op == api.OLe)
}

// ofWholes is what an operator makes of two whole numbers.
func ofWholes(op byte, x, y int64) (api.Value, api.Errno) {
	switch op {
	case api.OLt, api.OLe:
		return compared(op, x, y), api.OK
	case api.ONum:
		return value.Num(plane.Of(x, y))
	}
	return reckoned(op, x, y, integers())
}

// ofWhole is what an operator makes of a whole number.
func ofWhole(op byte, x int64) (api.Value, api.Errno) {
	switch op {
	case api.ONeg:
		return value.Int(whole.Neg(x)), api.OK
	case api.ORe, api.OConj:
		return value.Int(x), api.OK
	case api.OIm:
		return value.Int(0), api.OK
	}
	return nil, api.ErrType
}

// ofComplex is what an operator makes of a complex number.
func ofComplex(op byte, z complex128) (api.Value, api.Errno) {
	re, im := plane.Parts(z)
	switch op {
	case api.ONeg:
		return value.Num(plane.Neg(z))
	case api.ORe:
		return value.Int(re), api.OK
	case api.OIm:
		return value.Int(im), api.OK
	case api.OConj:
		return value.Num(plane.Conj(z))
	}
	return nil, api.ErrType
}
