package oper_test

import (
	"fmt"
	"math"
	"slices"
	"strings"
	"testing"

	"prompter/api"
	"prompter/oper"
)

const (
	greatest = int64(math.MaxInt64)
	least    = int64(math.MinInt64)
	most     = math.MaxFloat64
	tiniest  = math.SmallestNonzeroFloat64
)

// The values of which tests put others together: each as the chapter says it, made by no other layer.
var (
	none = api.Value{{Kind: api.KNone}}
	no   = api.Value{{Kind: api.KBool}}
	yes  = api.Value{{Kind: api.KBool, Int: 1}}
)

func in(x int64) api.Value       { return api.Value{{Kind: api.KInt, Int: x}} }
func text(s string) api.Value    { return api.Value{{Kind: api.KText, Text: s}} }
func num(z complex128) api.Value { return api.Value{{Kind: api.KNum, Num: z}} }
func truth(b bool) api.Value {
	if b {
		return yes
	}
	return no
}

func list(l ...api.Value) api.Value {
	return append(api.Value{{Kind: api.KList, Kids: len(l)}}, slices.Concat(l...)...)
}

// row is a list of n values, all of them v.
func row(n int, v api.Value) api.Value {
	return list(slices.Repeat([]api.Value{v}, n)...)
}

// long is a text of n bytes.
func long(n int) api.Value {
	return text(strings.Repeat("x", n))
}

// told is v in a message: no more of it than may be read.
func told(v api.Value) string {
	return fmt.Sprintf("%.150s (%d nodes)", fmt.Sprintf("%+v", v[:min(len(v), 8)]), len(v))
}

// same tells whether a and b have the same nodes, bit by bit.
func same(a, b api.Value) bool {
	return slices.EqualFunc(a, b, func(x, y api.Node) bool {
		return x == y && math.Signbit(real(x.Num)) == math.Signbit(real(y.Num)) && math.Signbit(imag(x.Num)) == math.Signbit(imag(y.Num))
	})
}

// isValue fails unless what a call with these arguments answered is what is wanted.
func isValue(t *testing.T, call string, op byte, args []api.Value, v api.Value, e api.Errno, want api.Value, err api.Errno) {
	t.Helper()
	if same(v, want) && e == err {
		return
	}
	var all []string
	for _, a := range args[:min(len(args), 3)] {
		all = append(all, told(a))
	}
	t.Errorf("%s %d of %s: %s, %d, not %s, %d", call, op, strings.Join(all, " and "), told(v), e, told(want), err)
}

// isBinary fails unless Binary answers that.
func isBinary(t *testing.T, op byte, a, b, want api.Value, err api.Errno) {
	t.Helper()
	v, e := oper.Binary(op, a, b)
	isValue(t, "Binary", op, []api.Value{a, b}, v, e, want, err)
}

// isUnary fails unless Unary answers that.
func isUnary(t *testing.T, op byte, v, want api.Value, err api.Errno) {
	t.Helper()
	got, e := oper.Unary(op, v)
	isValue(t, "Unary", op, []api.Value{v}, got, e, want, err)
}

// isList fails unless List answers that.
func isList(t *testing.T, l []api.Value, want api.Value, err api.Errno) {
	t.Helper()
	v, e := oper.List(l)
	isValue(t, "List", 0, l, v, e, want, err)
}

func TestSame(t *testing.T) { // P12.1
	for _, x := range []struct {
		a, b api.Value
		same bool
	}{
		{none, none, true},
		{none, no, false},
		{no, no, true},
		{yes, no, false},
		{yes, in(1), false},
		{in(1), in(1), true},
		{in(1), in(-1), false},
		{in(greatest), in(least), false},
		{in(1), num(1), false},
		{in(0), no, false},
		{in(0), list(), false},
		{text(""), none, false},
		{text(""), list(), false},
		{text("a"), text("a"), true},
		{text("a"), text("ab"), false},
		{text("\x00"), text(""), false},
		{text("é"), text("é"), true},
		{text("a"), list(text("a")), false},
		{num(1 + 2i), num(1 + 2i), true},
		{num(1 + 2i), num(1 - 2i), false},
		{num(1 + 2i), num(2 + 1i), false},
		{list(), list(), true},
		{list(in(1)), list(in(1)), true},
		{list(in(1)), list(in(2)), false},
		{list(in(1), in(2)), list(in(2), in(1)), false},
		{list(in(1), list(in(2))), list(in(1), list(in(2))), true},
		{list(in(1), list(in(2))), list(in(1), in(2)), false},
		{list(list(in(1)), in(2)), list(list(in(1), in(2))), false},
		{list(list()), list(), false},
		{row(1023, no), row(1023, no), true},
		{row(1023, no), row(1022, no), false},
		{list(row(1021, no), yes), list(row(1021, no), no), false},
		{long(4095), long(4095), true},
		{long(4095), long(4094), false},
	} {
		for _, p := range [][2]api.Value{{x.a, x.b}, {x.b, x.a}} {
			isBinary(t, api.OEq, p[0], p[1], truth(x.same), api.OK)
			isBinary(t, api.ONe, p[0], p[1], truth(!x.same), api.OK)
		}
	}
}

// TestLess holds values that rise against one another.
func TestLess(t *testing.T) { // P12.1
	var words, numbers []api.Value
	for _, s := range []string{"", "\x00", "\x00\x00", "\x01", "A", "Z", "a", "a\x00", "aa", "ab", "b", "b ", "é", "ê", "\xff", "\xff\x00", "\xff\xff"} {
		words = append(words, text(s))
	}
	for _, x := range []int64{least, least + 1, -1 << 53, -256, -1, 0, 1, 2, 255, 1<<53 + 1, 1<<53 + 2, greatest - 1, greatest} {
		numbers = append(numbers, in(x))
	}
	for _, rising := range [][]api.Value{words, numbers} {
		for i, a := range rising {
			for k, b := range rising {
				isBinary(t, api.OLt, a, b, truth(i < k), api.OK)
				isBinary(t, api.OLe, a, b, truth(i <= k), api.OK)
			}
		}
	}
	isBinary(t, api.OLt, long(4094), long(4095), yes, api.OK)
	isBinary(t, api.OLe, long(4095), long(4094), no, api.OK)
}

func TestBinary(t *testing.T) { // P12.1
	for _, x := range []struct {
		op         byte
		a, b, want api.Value
	}{
		{api.OAdd, in(2), in(3), in(5)},
		{api.OAdd, in(greatest), in(greatest), in(greatest)},
		{api.OAdd, in(least), in(-1), in(least)},
		{api.OAdd, in(2), num(1 + 2i), num(3 + 2i)},
		{api.OAdd, num(1 + 2i), in(2), num(3 + 2i)},
		{api.OAdd, num(1 + 2i), num(-1 - 2i), num(0)},
		{api.OAdd, num(1i), in(greatest), num(0x1p63 + 1i)},
		{api.OAdd, text("a"), text("b"), text("ab")},
		{api.OAdd, text(""), text(""), text("")},
		{api.OAdd, text("\xc3"), text("\xa9"), text("é")},
		{api.OAdd, list(in(1)), list(in(2)), list(in(1), in(2))},
		{api.OAdd, list(), list(), list()},
		{api.OAdd, list(), list(list()), list(list())},
		{api.OAdd, list(none, list(in(1), text("a"))), list(list(yes), num(1i)), list(none, list(in(1), text("a")), list(yes), num(1i))},

		{api.OSub, in(3), in(5), in(-2)},
		{api.OSub, in(0), in(least), in(greatest)},
		{api.OSub, num(1), in(5), num(-4)},
		{api.OSub, in(5), num(1i), num(5 - 1i)},
		{api.OSub, num(1 + 2i), num(1 + 2i), num(0)},

		{api.OMul, in(-3), in(4), in(-12)},
		{api.OMul, in(greatest), in(-2), in(least)},
		{api.OMul, in(2), num(1 - 3i), num(2 - 6i)},
		{api.OMul, num(1 - 3i), in(0), num(0)},
		{api.OMul, num(1i), num(1i), num(-1)},
		{api.OMul, num(1 + 2i), num(3 - 1i), num(5 + 5i)},
		{api.OMul, num(0), in(-5), num(0)},

		{api.ODiv, in(7), in(-2), in(-3)},
		{api.ODiv, in(least), in(-1), in(greatest)},
		{api.ODiv, in(1), in(3), in(0)},
		{api.ODiv, in(1), num(2), num(0.5)},
		{api.ODiv, num(1), in(2), num(0.5)},
		{api.ODiv, num(-4 + 8i), num(2 + 2i), num(1 + 3i)},
		{api.ODiv, in(0), num(-1), num(0)},

		{api.OMod, in(7), in(-2), in(1)},
		{api.OMod, in(-7), in(2), in(-1)},
		{api.OMod, in(least), in(-1), in(0)},

		{api.ONum, in(3), in(-4), num(3 - 4i)},
		{api.ONum, in(0), in(0), num(0)},
		{api.ONum, in(greatest), in(1<<53 + 1), num(complex(0x1p63, 0x1p53))},

		{api.OAt, list(in(5), in(6)), in(0), in(5)},
		{api.OAt, list(in(5), in(6)), in(1), in(6)},
		{api.OAt, list(list(list()), list(in(1), in(2)), none), in(1), list(in(1), in(2))},
		{api.OAt, list(list(list(list(), in(1)), in(2)), list()), in(1), list()},
		{api.OAt, text("ab"), in(1), text("b")},
		{api.OAt, text("é"), in(1), text("\xa9")},
		{api.OAt, text("\x00"), in(0), text("\x00")},
		{api.OAt, row(1023, yes), in(1022), yes},
		{api.OAt, long(4095), in(4094), text("x")},
	} {
		isBinary(t, x.op, x.a, x.b, x.want, api.OK)
	}
}

func TestBinaryFaults(t *testing.T) { // P12.1
	for _, x := range []struct {
		op   byte
		a, b api.Value
		e    api.Errno
	}{
		{api.ODiv, in(2), in(0), api.ErrZero},
		{api.ODiv, in(0), in(0), api.ErrZero},
		{api.ODiv, in(2), num(0), api.ErrZero},
		{api.ODiv, num(0), in(0), api.ErrZero},
		{api.ODiv, num(most), num(0), api.ErrZero},
		{api.OMod, in(2), in(0), api.ErrZero},
		{api.OMod, in(least), in(0), api.ErrZero},

		{api.OAt, list(in(5)), in(1), api.ErrIndex},
		{api.OAt, list(in(5)), in(-1), api.ErrIndex},
		{api.OAt, list(list(in(5), in(6))), in(1), api.ErrIndex},
		{api.OAt, list(), in(0), api.ErrIndex},
		{api.OAt, list(in(5)), in(greatest), api.ErrIndex},
		{api.OAt, list(in(5)), in(least), api.ErrIndex},
		{api.OAt, list(in(5)), in(1 << 32), api.ErrIndex},
		{api.OAt, text(""), in(0), api.ErrIndex},
		{api.OAt, text("ab"), in(2), api.ErrIndex},
		{api.OAt, text("ab"), in(-1), api.ErrIndex},
		{api.OAt, text("ab"), in(1 << 32), api.ErrIndex},
		{api.OAt, text("ab"), in(least), api.ErrIndex},

		{api.OAdd, num(most), num(most), api.ErrRange},
		{api.OSub, num(-most), num(most), api.ErrRange},
		{api.OSub, num(complex(0, most)), num(complex(0, -most)), api.ErrRange},
		{api.OMul, num(1e200), num(1e200), api.ErrRange},
		{api.OMul, in(greatest), num(1e300), api.ErrRange},
		{api.OMul, num(1e300), in(greatest), api.ErrRange},
		{api.ODiv, num(1), num(tiniest), api.ErrRange},
		{api.ODiv, in(1), num(complex(0, tiniest)), api.ErrRange},

		{api.OLt, num(1), num(2), api.ErrType},
		{api.OLe, in(1), num(2), api.ErrType},
		{api.OLt, in(1), text("a"), api.ErrType},
		{api.OLt, no, yes, api.ErrType},
		{api.OLe, list(), list(), api.ErrType},
		{api.OAdd, in(2), text("a"), api.ErrType},
		{api.OAdd, text("a"), in(2), api.ErrType},
		{api.OAdd, list(), in(2), api.ErrType},
		{api.OAdd, text("a"), list(), api.ErrType},
		{api.OAdd, num(1), text("a"), api.ErrType},
		{api.OAdd, yes, in(1), api.ErrType},
		{api.OAdd, none, none, api.ErrType},
		{api.OSub, text("a"), text("a"), api.ErrType},
		{api.OMul, list(), in(2), api.ErrType},
		{api.ODiv, text("a"), in(0), api.ErrType},
		{api.OMod, num(1), in(0), api.ErrType},
		{api.OMod, in(1), num(1), api.ErrType},
		{api.OMod, num(1), num(0), api.ErrType},
		{api.ONum, num(1), in(1), api.ErrType},
		{api.ONum, num(1), num(1), api.ErrType},
		{api.OAt, in(0), list(), api.ErrType},
		{api.OAt, in(0), in(0), api.ErrType},
		{api.OAt, list(in(5)), num(0), api.ErrType},
		{api.OAt, text("a"), no, api.ErrType},
		{api.OAt, none, in(0), api.ErrType},
	} {
		isBinary(t, x.op, x.a, x.b, nil, x.e)
	}
}

func TestUnary(t *testing.T) { // P12.2
	for _, x := range []struct {
		op      byte
		v, want api.Value
	}{
		{api.ONot, yes, no},
		{api.ONot, no, yes},
		{api.ONeg, in(5), in(-5)},
		{api.ONeg, in(0), in(0)},
		{api.ONeg, in(least), in(greatest)},
		{api.ONeg, num(1 - 2i), num(-1 + 2i)},
		{api.ONeg, num(0), num(0)},
		{api.ONeg, num(3), num(-3)},
		{api.OLen, text(""), in(0)},
		{api.OLen, text("é"), in(2)},
		{api.OLen, long(4095), in(4095)},
		{api.OLen, list(), in(0)},
		{api.OLen, list(list(in(1), in(2), in(3))), in(1)},
		{api.OLen, list(text("abc"), in(2)), in(2)},
		{api.OLen, row(1023, none), in(1023)},
		{api.ORe, in(-9), in(-9)},
		{api.OIm, in(-9), in(0)},
		{api.OConj, in(-9), in(-9)},
		{api.ORe, in(least), in(least)},
		{api.OConj, in(least), in(least)},
		{api.ORe, num(5 - 7i), in(5)},
		{api.OIm, num(5 - 7i), in(-7)},
		{api.OConj, num(5 - 7i), num(5 + 7i)},
		{api.OConj, num(5), num(5)},
		{api.OConj, num(0), num(0)},
		{api.ORe, num(-2.9 + 1e30i), in(-2)},
		{api.OIm, num(-2.9 + 1e30i), in(greatest)},
		{api.OIm, num(complex(1, -most)), in(least)},
		{api.ORe, num(complex(tiniest, 1)), in(0)},
	} {
		isUnary(t, x.op, x.v, x.want, api.OK)
	}
}

// TestUnaryKinds asks each operator of one of each kind.
func TestUnaryKinds(t *testing.T) { // P12.2
	has := map[byte][]byte{
		api.ONot:  {api.KBool},
		api.ONeg:  {api.KInt, api.KNum},
		api.OLen:  {api.KText, api.KList},
		api.ORe:   {api.KInt, api.KNum},
		api.OIm:   {api.KInt, api.KNum},
		api.OConj: {api.KInt, api.KNum},
	}
	for op := byte(api.ONot); op <= api.OConj; op++ {
		for _, v := range []api.Value{none, no, yes, in(0), in(1), text(""), text("a"), num(0), num(1i), list(), list(in(1)), list(yes), list(text("a"))} {
			want := api.ErrType
			if slices.Contains(has[op], v[0].Kind) {
				want = api.OK
			}
			got, e := oper.Unary(op, v)
			if e != want || (len(got) == 1) != (want == api.OK) {
				t.Errorf("Unary(%d, %s): %s, %d, not %d", op, told(v), told(got), e, want)
			}
		}
	}
}

func TestTruth(t *testing.T) { // P12.3
	for _, x := range []struct {
		v     api.Value
		truth bool
		e     api.Errno
	}{
		{yes, true, api.OK},
		{no, false, api.OK},
		{in(1), false, api.ErrType},
		{in(0), false, api.ErrType},
		{none, false, api.ErrType},
		{text("true"), false, api.ErrType},
		{num(1), false, api.ErrType},
		{list(), false, api.ErrType},
		{list(yes), false, api.ErrType},
		{nil, false, api.ErrShape},
		{slices.Concat(yes, yes), false, api.ErrShape},
		{api.Value{{Kind: api.KBool, Int: 2}}, false, api.ErrShape},
		{api.Value{{Kind: api.KBool, Int: 1, Kids: 1}}, false, api.ErrShape},
		{slices.Repeat(yes, 1025), false, api.ErrLong},
		{long(4096), false, api.ErrLong},
	} {
		if b, e := oper.Truth(x.v); b != x.truth || e != x.e {
			t.Errorf("Truth(%s): %t, %d, not %t, %d", told(x.v), b, e, x.truth, x.e)
		}
	}
}

func TestList(t *testing.T) { // P12.3
	isList(t, nil, list(), api.OK)
	isList(t, []api.Value{}, list(), api.OK)
	isList(t, []api.Value{in(1)}, list(in(1)), api.OK)
	isList(t, []api.Value{in(1), list(text("ab"), list()), yes}, list(in(1), list(text("ab"), list()), yes), api.OK)
	isList(t, []api.Value{list(), list()}, list(list(), list()), api.OK)
	isList(t, []api.Value{in(1), nil}, nil, api.ErrShape)
	isList(t, []api.Value{{}, in(1)}, nil, api.ErrShape)
	isList(t, make([]api.Value, 5000), nil, api.ErrShape)
	isList(t, []api.Value{slices.Concat(in(1), in(1))}, nil, api.ErrShape)
}
