package code_test

import (
	"encoding/binary"
	"math"
	"slices"
	"strings"
	"testing"

	"prompter/api"
	"prompter/code"
)

const (
	greatest = int64(math.MaxInt64)
	least    = int64(math.MinInt64)
	most     = uint64(math.MaxUint64)
)

var (
	minus    = math.Copysign(0, -1)
	infinite = math.Inf(1)
	nan      = math.NaN()
)

// The nodes of which tests put values together.
var (
	none = api.Node{Kind: api.KNone}
	no   = api.Node{Kind: api.KBool}
	yes  = api.Node{Kind: api.KBool, Int: 1}
)

func whole(x int64) api.Node {
	return api.Node{Kind: api.KInt, Int: x}
}

func text(s string) api.Node {
	return api.Node{Kind: api.KText, Text: s}
}

func number(z complex128) api.Node {
	return api.Node{Kind: api.KNum, Num: z}
}

func list(kids int) api.Node {
	return api.Node{Kind: api.KList, Kids: kids}
}

// long is a text of n bytes.
func long(n int) string {
	return strings.Repeat("x", n)
}

// many is n nodes, behind those that are told.
func many(n int, x api.Node, ahead ...api.Node) api.Value {
	return append(api.Value(ahead), slices.Repeat(api.Value{x}, n)...)
}

// uints are numbers from 0 on at whose ends the number of bytes changes, and some between.
func uints() []uint64 {
	l := []uint64{0, 1, 2, 5, 100, 300, 1 << 20, 1<<40 + 12345, 1 << 63, most, most - 1, 1<<63 - 1}
	for bits := 7; bits < 64; bits += 7 {
		l = append(l, 1<<bits-1, 1<<bits, 1<<bits+1)
	}
	return l
}

// ints are whole numbers of both signs, with those ends.
func ints() []int64 {
	l := []int64{least, least + 1, greatest}
	for _, n := range uints() {
		l = append(l, int64(n>>1), -int64(n>>1), ^int64(n>>1))
	}
	return l
}

// nums are complex numbers that are fine.
func nums() []complex128 {
	parts := []float64{0, 1, -1, 0.1, -2.5, math.MaxFloat64, -math.MaxFloat64, math.SmallestNonzeroFloat64, -math.SmallestNonzeroFloat64, 0x1p-1022, 1 << 53}
	var l []complex128
	for _, re := range parts {
		for _, im := range parts {
			l = append(l, complex(re, im))
		}
	}
	return l
}

// notFine are complex numbers that are not.
func notFine() []complex128 {
	var l []complex128
	for _, part := range []float64{minus, infinite, -infinite, nan, -nan, math.Float64frombits(0x7ff0000000000001), math.Float64frombits(0xffffffffffffffff)} {
		l = append(l, complex(part, 0), complex(0, part), complex(part, part), complex(1, part), complex(part, -2))
	}
	return l
}

// texts are texts of any bytes, with lengths at which the number of bytes of the length changes.
func texts() []string {
	return []string{"", "a", "ab", "\x00", "\xff\xfe\x80", "é", "日本", long(126), long(127), long(128), long(129), long(4095), long(4096), long(16383), long(16384), strings.Repeat("\x00\xff", 1<<19)}
}

// right are right values.
func right() []api.Value {
	l := []api.Value{
		{none}, {no}, {yes}, {list(0)}, {text("")}, {text("\x00\xffé")}, {text(long(4095))}, {number(1 - 2i)},
		{list(2), whole(1), none},
		{list(3), list(2), yes, list(1), no, list(0), text("ab")},
		{list(4), whole(-150), text("ab"), number(2i), list(1), none},
		{list(2), text(long(2000)), text(long(2093))},
		{list(2), text(long(4093)), none},
		many(1023, none, list(1023)),
		many(1023, text("abc"), list(1023)),
		many(127, yes, list(127)), many(128, whole(-1), list(128)),
		append(many(1023, list(1)), list(0)),
	}
	for _, n := range ints() {
		l = append(l, api.Value{whole(n)})
	}
	for _, z := range nums() {
		l = append(l, api.Value{number(z)})
	}
	return l
}

// wrong are lists of nodes that are no right values, and what value.Check says of them.
func wrong() map[api.Errno][]api.Value {
	return map[api.Errno][]api.Value{
		api.ErrShape: {
			nil, {}, {none, none}, {list(1)}, {list(-1)}, {{Kind: 6}}, {{Kind: 255}}, {{Kind: api.KBool, Int: 2}}, {{Kind: api.KNone, Int: 1}}, {{Kind: api.KInt, Text: "a"}},
			{number(complex(minus, 0))}, {number(complex(0, nan))}, {list(1), number(complex(infinite, 0))}, {list(1 << 40)},
			many(1023, none, list(1022)),
		},
		api.ErrLong: {
			{text(long(4096))}, many(1024, none, list(1024)), many(1025, none), {list(2), text(long(2000)), text(long(2094))}, many(1023, text("abcd"), list(1023)),
		},
	}
}

// isBytes fails unless b is what is wanted.
func isBytes(t *testing.T, name string, b []byte, wanted string) {
	t.Helper()
	if string(b) != wanted {
		t.Errorf("%s: %.60x, not %.60x", name, b, wanted)
	}
}

func TestPutUint(t *testing.T) { // P5.1
	for n, wanted := range map[uint64]string{
		0: "\x00", 1: "\x01", 127: "\x7f", 128: "\x80\x01", 255: "\xff\x01", 300: "\xac\x02", 16383: "\xff\x7f", 16384: "\x80\x80\x01",
		1<<63 - 1: "\xff\xff\xff\xff\xff\xff\xff\xff\x7f", 1 << 63: "\x80\x80\x80\x80\x80\x80\x80\x80\x80\x01", most: "\xff\xff\xff\xff\xff\xff\xff\xff\xff\x01",
	} {
		isBytes(t, "PutUint", code.PutUint(n), wanted)
	}
	for _, n := range uints() {
		isBytes(t, "PutUint", code.PutUint(n), string(binary.AppendUvarint(nil, n)))
	}
}

func TestPutInt(t *testing.T) { // P5.1
	for n, wanted := range map[int64]string{
		0: "\x00", -1: "\x01", 1: "\x02", -64: "\x7f", 64: "\x80\x01", -65: "\x81\x01", -150: "\xab\x02",
		least: "\xff\xff\xff\xff\xff\xff\xff\xff\xff\x01", greatest: "\xfe\xff\xff\xff\xff\xff\xff\xff\xff\x01",
	} {
		isBytes(t, "PutInt", code.PutInt(n), wanted)
	}
	for _, n := range ints() {
		isBytes(t, "PutInt", code.PutInt(n), string(binary.AppendVarint(nil, n)))
	}
}

func TestPutText(t *testing.T) { // P5.1
	isBytes(t, "PutText(ab)", code.PutText("ab"), "\x02ab")
	isBytes(t, "PutText of none", code.PutText(""), "\x00")
	for _, s := range texts() {
		isBytes(t, "PutText", code.PutText(s), string(binary.AppendUvarint(nil, uint64(len(s))))+s)
	}
}

// bitsOf are the 16 bytes of a complex number, whether it is fine or not.
func bitsOf(z complex128) string {
	b := binary.BigEndian.AppendUint64(nil, math.Float64bits(real(z)))
	return string(binary.BigEndian.AppendUint64(b, math.Float64bits(imag(z))))
}

func TestPutNum(t *testing.T) { // P5.1
	for z, wanted := range map[complex128]string{
		0: strings.Repeat("\x00", 16), 1 - 2i: "\x3f\xf0\x00\x00\x00\x00\x00\x00\xc0\x00\x00\x00\x00\x00\x00\x00", 0.1: "\x3f\xb9\x99\x99\x99\x99\x99\x9a" + strings.Repeat("\x00", 8),
	} {
		b, e := code.PutNum(z)
		isBytes(t, "PutNum", b, wanted)
		if e != api.OK {
			t.Errorf("PutNum(%v): %d", z, e)
		}
	}
	for _, z := range nums() {
		b, e := code.PutNum(z)
		isBytes(t, "PutNum", b, bitsOf(z))
		if e != api.OK {
			t.Errorf("PutNum(%v): %d", z, e)
		}
	}
	for _, z := range notFine() {
		if b, e := code.PutNum(z); e != api.ErrRange || len(b) != 0 {
			t.Errorf("PutNum(%v): %x, %d", z, b, e)
		}
	}
}

// nodeBytes are a right node's bytes, as the chapter tells them.
func nodeBytes(n api.Node) string {
	b := []byte{n.Kind}
	switch n.Kind {
	case 1:
		b = append(b, byte(n.Int))
	case 2:
		b = binary.AppendVarint(b, n.Int)
	case 3:
		b = append(binary.AppendUvarint(b, uint64(len(n.Text))), n.Text...)
	case 4:
		b = append(b, bitsOf(n.Num)...)
	case 5:
		b = binary.AppendUvarint(b, uint64(n.Kids))
	}
	return string(b)
}

// valueBytes are a right value's bytes, as the chapter tells them.
func valueBytes(v api.Value) string {
	var s strings.Builder
	for _, n := range v {
		s.WriteString(nodeBytes(n))
	}
	return s.String()
}

func TestPutValue(t *testing.T) { // P5.1
	for _, x := range []struct {
		v      api.Value
		wanted string
	}{
		{api.Value{none}, "\x00"}, {api.Value{no}, "\x01\x00"}, {api.Value{yes}, "\x01\x01"}, {api.Value{whole(-150)}, "\x02\xab\x02"}, {api.Value{text("ab")}, "\x03\x02ab"}, {api.Value{text("")}, "\x03\x00"},
		{api.Value{number(1 - 2i)}, "\x04\x3f\xf0\x00\x00\x00\x00\x00\x00\xc0\x00\x00\x00\x00\x00\x00\x00"}, {api.Value{list(0)}, "\x05\x00"},
		{api.Value{list(2), whole(1), none}, "\x05\x02\x02\x02\x00"},
		{api.Value{list(2), list(1), list(0), text("x")}, "\x05\x02\x05\x01\x05\x00\x03\x01x"},
		{many(128, no, list(128)), "\x05\x80\x01" + strings.Repeat("\x01\x00", 128)},
	} {
		b, e := code.PutValue(x.v)
		isBytes(t, "PutValue", b, x.wanted)
		if e != api.OK {
			t.Errorf("PutValue: %d", e)
		}
	}
	for _, v := range right() {
		b, e := code.PutValue(v)
		isBytes(t, "PutValue", b, valueBytes(v))
		if e != api.OK {
			t.Errorf("PutValue: %d", e)
		}
	}
	for wanted, l := range wrong() {
		for i, v := range l {
			if b, e := code.PutValue(v); e != wanted || len(b) != 0 {
				t.Errorf("PutValue of the wrong value %d: %.60x, %d, not %d", i, b, e, wanted)
			}
		}
	}
}
