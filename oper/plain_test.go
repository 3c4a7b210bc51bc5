package oper_test

import (
	"math"
	"slices"
	"testing"

	"prompter/api"
	"prompter/oper"
	"prompter/plane"
	"prompter/value"
	"prompter/whole"
)

// line is a line of the chapter's table: of values of these kinds an operator makes that.
type line struct {
	op   byte
	a, b byte
	is   func(a, b api.Value) (api.Value, api.Errno)
}

// ofInts, ofCut, ofNums, ofTruth are what a line says of numbers and texts, by what layers 1 and 2 do.
func ofInts(do func(x, y int64) int64) func(a, b api.Value) (api.Value, api.Errno) {
	return func(a, b api.Value) (api.Value, api.Errno) { return in(do(a[0].Int, b[0].Int)), api.OK }
}

func ofCut(do func(x, y int64) (int64, api.Errno)) func(a, b api.Value) (api.Value, api.Errno) {
	return func(a, b api.Value) (api.Value, api.Errno) {
		z, e := do(a[0].Int, b[0].Int)
		if e != api.OK {
			return nil, e
		}
		return in(z), api.OK
	}
}

func ofNums(do func(x, y complex128) (complex128, api.Errno)) func(a, b api.Value) (api.Value, api.Errno) {
	as := func(v api.Value) complex128 {
		if v[0].Kind == api.KInt {
			return plane.Of(v[0].Int, 0)
		}
		return v[0].Num
	}
	return func(a, b api.Value) (api.Value, api.Errno) {
		z, e := do(as(a), as(b))
		if e != api.OK {
			return nil, e
		}
		return num(z), api.OK
	}
}

func ofTruth(do func(a, b api.Node) bool) func(a, b api.Value) (api.Value, api.Errno) {
	return func(a, b api.Value) (api.Value, api.Errno) { return truth(do(a[0], b[0])), api.OK }
}

// members are those of a right list, cut by a function that calls itself.
func members(v api.Value) []api.Value {
	var l []api.Value
	var past func(at int) int
	past = func(at int) int {
		end := at + 1
		for range v[at].Kids {
			end = past(end)
		}
		return end
	}
	for at := 1; at < len(v); {
		end := past(at)
		l = append(l, v[at:end])
		at = end
	}
	return l
}

// isAt is what stands at a place of a row of so many.
func isAt(count int, place int64, of func(i int) api.Value) (api.Value, api.Errno) {
	for i := range count {
		if int64(i) == place {
			return of(i), api.OK
		}
	}
	return nil, api.ErrIndex
}

// isFit is v, unless it is too large.
func isFit(v api.Value) (api.Value, api.Errno) {
	size := len(v)
	for _, n := range v {
		size += len(n.Text)
	}
	if len(v) > 1024 || size > 4096 {
		return nil, api.ErrBig
	}
	return v, api.OK
}

// lines are the chapter's table, but for OEq and ONe.
func lines() []line {
	const i, n, t, l = api.KInt, api.KNum, api.KText, api.KList
	all := []line{
		{api.OLt, i, i, ofTruth(func(a, b api.Node) bool { return a.Int < b.Int })},
		{api.OLe, i, i, ofTruth(func(a, b api.Node) bool { return a.Int <= b.Int })},
		{api.OLt, t, t, ofTruth(func(a, b api.Node) bool { return slices.Compare([]byte(a.Text), []byte(b.Text)) < 0 })},
		{api.OLe, t, t, ofTruth(func(a, b api.Node) bool { return slices.Compare([]byte(a.Text), []byte(b.Text)) <= 0 })},
		{api.OAdd, i, i, ofInts(whole.Add)},
		{api.OSub, i, i, ofInts(whole.Sub)},
		{api.OMul, i, i, ofInts(whole.Mul)},
		{api.ODiv, i, i, ofCut(whole.Div)},
		{api.OMod, i, i, ofCut(whole.Mod)},
		{api.ONum, i, i, func(a, b api.Value) (api.Value, api.Errno) { return num(plane.Of(a[0].Int, b[0].Int)), api.OK }},
		{api.OAdd, t, t, func(a, b api.Value) (api.Value, api.Errno) { return isFit(text(a[0].Text + b[0].Text)) }},
		{api.OAdd, l, l, func(a, b api.Value) (api.Value, api.Errno) {
			return isFit(list(slices.Concat(members(a), members(b))...))
		}},
		{api.OAt, l, i, func(a, b api.Value) (api.Value, api.Errno) {
			all := members(a)
			return isAt(len(all), b[0].Int, func(i int) api.Value { return all[i] })
		}},
		{api.OAt, t, i, func(a, b api.Value) (api.Value, api.Errno) {
			all := []byte(a[0].Text)
			return isAt(len(all), b[0].Int, func(i int) api.Value { return text(string(all[i : i+1])) })
		}},
	}
	for _, kinds := range [][2]byte{{i, n}, {n, i}, {n, n}} {
		all = append(all, line{api.OAdd, kinds[0], kinds[1], ofNums(plane.Add)}, line{api.OSub, kinds[0], kinds[1], ofNums(plane.Sub)},
			line{api.OMul, kinds[0], kinds[1], ofNums(plane.Mul)}, line{api.ODiv, kinds[0], kinds[1], ofNums(plane.Div)})
	}
	return all
}

// plainBinary is what the chapter asks of Binary.
func plainBinary(table []line, op byte, a, b api.Value) (api.Value, api.Errno) {
	if op < 32 || op > 42 {
		return nil, api.ErrArg
	}
	for _, v := range []api.Value{a, b} {
		if e := value.Check(v); e != api.OK {
			return nil, e
		}
	}
	if op == api.OEq || op == api.ONe {
		return truth(same(a, b) == (op == api.OEq)), api.OK
	}
	for _, x := range table {
		if x.op == op && x.a == a[0].Kind && x.b == b[0].Kind {
			return x.is(a, b)
		}
	}
	return nil, api.ErrType
}

// plainUnary is what the chapter asks of Unary.
func plainUnary(op byte, v api.Value) (api.Value, api.Errno) {
	if op < 43 || op > 48 {
		return nil, api.ErrArg
	}
	if e := value.Check(v); e != api.OK {
		return nil, e
	}
	x := v[0]
	re, im := plane.Parts(x.Num)
	switch [2]byte{op, x.Kind} {
	case [2]byte{api.ONot, api.KBool}:
		return truth(x.Int == 0), api.OK
	case [2]byte{api.ONeg, api.KInt}:
		return in(whole.Neg(x.Int)), api.OK
	case [2]byte{api.ONeg, api.KNum}:
		return num(plane.Neg(x.Num)), api.OK
	case [2]byte{api.OLen, api.KText}:
		return in(int64(len(x.Text))), api.OK
	case [2]byte{api.OLen, api.KList}:
		return in(int64(len(members(v)))), api.OK
	case [2]byte{api.ORe, api.KInt}, [2]byte{api.OConj, api.KInt}:
		return in(x.Int), api.OK
	case [2]byte{api.OIm, api.KInt}:
		return in(0), api.OK
	case [2]byte{api.ORe, api.KNum}:
		return in(re), api.OK
	case [2]byte{api.OIm, api.KNum}:
		return in(im), api.OK
	case [2]byte{api.OConj, api.KNum}:
		return num(plane.Conj(x.Num)), api.OK
	}
	return nil, api.ErrType
}

// samples are right values of all kinds, at all edges.
func samples() []api.Value {
	l := []api.Value{
		none, no, yes,
		text(""), text("\x00"), text("a"), text("ab"), text("b"), text("é"), text("\xff"), long(2047), long(2048), long(4094), long(4095),
		list(), list(list()), list(in(1)), list(in(1), text("ab"), num(2i)), list(list(in(1), in(2)), list(list(none)), text("é")), list(yes, list(), no),
		row(511, in(7)), row(512, in(7)), row(1022, none), row(1023, none), list(row(1022, none)), list(long(4094)), list(long(2046)), list(long(2047)),
	}
	for _, x := range []int64{least, least + 1, -1 << 53, -3, -1, 0, 1, 2, 3, 1023, 1<<53 + 1, greatest - 1, greatest} {
		l = append(l, in(x))
	}
	for _, z := range []complex128{0, 1, -1, 1i, 2.5, 5 - 7i, -3 + 0.5i, 0x1p63, -0x1p63, 1e200 - 1e200i, complex(most, most), complex(0, -most), complex(tiniest, 0), complex(-1, tiniest)} {
		l = append(l, num(z))
	}
	return l
}

// wrong are values that are not right.
func wrong() []api.Value {
	minus, infinite := math.Copysign(0, -1), math.Inf(1)
	return []api.Value{
		nil, slices.Concat(in(1), in(1)), list(in(1), in(2))[:2], append(list(in(1)), yes...), {{Kind: 6}}, {{Kind: 255}},
		{{Kind: api.KBool, Int: 2}}, {{Kind: api.KNone, Int: 1}}, {{Kind: api.KInt, Text: "a"}}, {{Kind: api.KText, Int: 1}}, {{Kind: api.KInt, Num: 1}}, {{Kind: api.KInt, Kids: 1}},
		{{Kind: api.KList, Kids: -1}}, {{Kind: api.KList, Kids: math.MinInt}}, {{Kind: api.KList, Kids: math.MaxInt}}, {{Kind: api.KList, Kids: 1, Int: 1}, none[0]},
		num(complex(minus, 0)), num(complex(0, minus)), num(complex(infinite, 0)), num(complex(0, -infinite)), num(complex(math.NaN(), 0)), list(num(complex(1, minus))),
		row(1024, none), make(api.Value, 1025), long(4096), row(2, long(2047)), list(long(4095)),
	}
}

// TestAllPairs holds Binary of all pairs of samples, right and wrong ones, against the chapter's table.
func TestAllPairs(t *testing.T) { // P12.1
	table, all := lines(), slices.Concat(samples(), wrong())
	for _, a := range all {
		for _, b := range all {
			for op := byte(api.OOr); op <= api.ONot; op++ {
				v, e := plainBinary(table, op, a, b)
				isBinary(t, op, a, b, v, e)
			}
		}
		if t.Failed() {
			return
		}
	}
}

// TestAllSamples holds Unary and Truth of all samples.
func TestAllSamples(t *testing.T) { // P12.2, P12.3
	for _, v := range slices.Concat(samples(), wrong()) {
		for op := byte(api.OAt); op <= api.OConj+1; op++ {
			want, e := plainUnary(op, v)
			isUnary(t, op, v, want, e)
		}
		want, err := value.Check(v) == api.OK && same(v, yes), value.Check(v)
		if err == api.OK && v[0].Kind != api.KBool {
			err = api.ErrType
		}
		if b, e := oper.Truth(v); b != want || e != err {
			t.Errorf("Truth(%s): %t, %d, not %t, %d", told(v), b, e, want, err)
		}
	}
}

// TestAllOperators asks both calls for each number that an operator might have: that goes ahead of what is wrong with the values.
func TestAllOperators(t *testing.T) { // P12.1, P12.2
	table := lines()
	few := []api.Value{none, yes, in(0), in(2), text("a"), num(1i), list(in(1)), nil, long(4096)}
	for op := range 256 {
		for _, a := range few {
			for _, b := range few {
				v, e := plainBinary(table, byte(op), a, b)
				isBinary(t, byte(op), a, b, v, e)
			}
			v, e := plainUnary(byte(op), a)
			isUnary(t, byte(op), a, v, e)
		}
	}
}
