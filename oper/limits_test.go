package oper_test

import (
	"slices"
	"testing"

	"prompter/api"
)

func TestLongestTexts(t *testing.T) { // P12.1
	for n := range 4096 {
		isBinary(t, api.OAdd, long(n), long(4095-n), long(4095), api.OK)
		if n > 0 {
			isBinary(t, api.OAdd, long(n), long(4096-n), nil, api.ErrBig)
		}
	}
	isBinary(t, api.OAdd, long(4095), long(4095), nil, api.ErrBig)
	isBinary(t, api.OAdd, text(""), long(4095), long(4095), api.OK)
	isBinary(t, api.OAdd, long(4095), text(""), long(4095), api.OK)
}

func TestMostNodes(t *testing.T) { // P12.1
	for n := range 1024 {
		isBinary(t, api.OAdd, row(n, in(1)), row(1023-n, in(1)), row(1023, in(1)), api.OK)
		if n > 0 {
			isBinary(t, api.OAdd, row(n, in(1)), row(1024-n, in(1)), nil, api.ErrBig)
		}
	}
	deep := list(list(list(row(1020, no)))) // 1024 nodes
	isBinary(t, api.OAdd, deep, list(), deep, api.OK)
	isBinary(t, api.OAdd, list(), deep, deep, api.OK)
	isBinary(t, api.OAdd, deep, list(no), nil, api.ErrBig)
	isBinary(t, api.OAdd, list(no), deep, nil, api.ErrBig)
	isBinary(t, api.OAdd, deep, deep, nil, api.ErrBig)
}

func TestLargestLists(t *testing.T) { // P12.1
	// A list of a text of n bytes has a size of n + 2; two of them together one less than both.
	for n := range 4094 {
		isBinary(t, api.OAdd, list(long(n)), list(long(4093-n)), list(long(n), long(4093-n)), api.OK)
		isBinary(t, api.OAdd, list(long(n)), list(long(4094-n)), nil, api.ErrBig)
		isBinary(t, api.OAdd, list(long(4094-n)), list(long(n)), nil, api.ErrBig)
	}
	isBinary(t, api.OAdd, list(long(4094)), list(), list(long(4094)), api.OK)
	isBinary(t, api.OAdd, list(), list(long(4094)), list(long(4094)), api.OK)
	isBinary(t, api.OAdd, list(long(4094)), list(no), nil, api.ErrBig)
	// 1024 nodes and 3069 bytes, and what is left.
	isBinary(t, api.OAdd, row(511, text("abc")), row(512, text("abc")), row(1023, text("abc")), api.OK)
	full := list(append([]api.Value{text("abcdef")}, slices.Repeat([]api.Value{text("abc")}, 1022)...)...)
	isBinary(t, api.OAdd, row(1, text("abcdef")), row(1022, text("abc")), full, api.OK)
	isBinary(t, api.OAdd, row(1, text("abcdefg")), row(1022, text("abc")), nil, api.ErrBig)
	isBinary(t, api.OAdd, row(1022, text("abc")), row(1, text("abcdefg")), nil, api.ErrBig)
}

func TestLargestList(t *testing.T) { // P12.3
	many := func(n int, v api.Value) []api.Value { return slices.Repeat([]api.Value{v}, n) }
	isList(t, many(1023, in(1)), row(1023, in(1)), api.OK)
	isList(t, many(1024, in(1)), nil, api.ErrBig)
	isList(t, many(100000, in(1)), nil, api.ErrBig)
	isList(t, many(1000, row(1023, in(1))), nil, api.ErrBig)
	isList(t, many(1, row(1022, in(1))), list(row(1022, in(1))), api.OK)
	isList(t, many(1, row(1023, in(1))), nil, api.ErrBig)
	isList(t, many(3, row(340, none)), row(3, row(340, none)), api.OK)
	isList(t, many(1, long(4094)), list(long(4094)), api.OK)
	isList(t, many(1, long(4095)), nil, api.ErrBig)
	isList(t, many(2, long(2047)), nil, api.ErrBig)
	isList(t, []api.Value{long(2047), long(2046)}, list(long(2047), long(2046)), api.OK)
	isList(t, many(1023, text("abc")), row(1023, text("abc")), api.OK)
	isList(t, append(many(1022, text("abc")), text("abcdefg")), nil, api.ErrBig)
}

// TestFirstMember holds lists that are too large, too, of which a member is wrong: that goes first.
func TestFirstMember(t *testing.T) { // P12.3
	tooLong, wide, shapeless := long(4096), row(1024, in(1)), api.Value{{Kind: 6}}
	full := slices.Repeat([]api.Value{in(1)}, 2000)
	for place := range 2001 {
		isList(t, slices.Insert(slices.Clone(full), place, tooLong), nil, api.ErrLong)
		isList(t, slices.Insert(slices.Clone(full), place, shapeless), nil, api.ErrShape)
	}
	isList(t, []api.Value{tooLong}, nil, api.ErrLong)
	isList(t, []api.Value{wide}, nil, api.ErrLong)
	isList(t, []api.Value{in(1), tooLong, shapeless}, nil, api.ErrLong)
	isList(t, []api.Value{in(1), shapeless, tooLong}, nil, api.ErrShape)
	isList(t, []api.Value{wide, shapeless}, nil, api.ErrLong)
	isList(t, []api.Value{nil, wide}, nil, api.ErrShape)
}

// TestFirstError holds faults that come together.
func TestFirstError(t *testing.T) { // P12.1, P12.2
	tooLong, shapeless := long(4096), api.Value{{Kind: api.KBool, Int: 2}}
	for op := byte(api.OEq); op <= api.OAt; op++ {
		isBinary(t, op, tooLong, shapeless, nil, api.ErrLong)
		isBinary(t, op, shapeless, tooLong, nil, api.ErrShape)
		isBinary(t, op, none, tooLong, nil, api.ErrLong)
		isBinary(t, op, none, nil, nil, api.ErrShape)
		isBinary(t, op, in(1), shapeless, nil, api.ErrShape)
		isBinary(t, op, shapeless, shapeless, nil, api.ErrShape)
	}
	for _, op := range []byte{0, api.OList, api.OOr, api.OAnd, api.ONot, api.OConj, api.OCall, 255} {
		isBinary(t, op, tooLong, shapeless, nil, api.ErrArg)
		isBinary(t, op, yes, yes, nil, api.ErrArg)
	}
	for _, op := range []byte{0, api.OOr, api.OEq, api.OAt, api.OConj + 1, api.OCall, 255} {
		isUnary(t, op, tooLong, nil, api.ErrArg)
		isUnary(t, op, in(1), nil, api.ErrArg)
	}
	for op := byte(api.ONot); op <= api.OConj; op++ {
		isUnary(t, op, tooLong, nil, api.ErrLong)
		isUnary(t, op, shapeless, nil, api.ErrShape)
		isUnary(t, op, nil, nil, api.ErrShape)
	}
}
