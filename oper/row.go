package oper

import (
	"slices"

	"prompter/api"
	"prompter/value"
)

// ofTexts is what an operator makes of two texts.
func ofTexts(op byte, x, y string) (api.Value, api.Errno) {
	switch op {
	case api.OLt, api.OLe:
		return compared(op, x, y), api.OK
	case api.OAdd:
		return fitting(value.Text(x + y))
	}
	return nil, api.ErrType
}

// ofLists is what an operator makes of two lists.
func ofLists(op byte, a, b api.Value) (api.Value, api.Errno) {
	if op != api.OAdd {
		return nil, api.ErrType
	}
	list := slices.Concat(a, b[1:])
	list[0].Kids += b[0].Kids
	return fitting(list, value.Check(list))
}

// ofPlace is what an operator makes of a text or a list, and a place.
func ofPlace(op byte, v api.Value, place int64) (api.Value, api.Errno) {
	switch {
	case op != api.OAt:
		return nil, api.ErrType
	case place < 0 || place >= count(v[0]):
		return nil, api.ErrIndex
	case v[0].Kind == api.KText:
		return value.Text(v[0].Text[place : place+1])
	}
	return member(v, place), api.OK
}

// count is how many bytes a text has, how many members a list.
func count(x api.Node) int64 {
	if x.Kind == api.KText {
		return int64(len(x.Text))
	}
	return int64(x.Kids)
}

// member is a list's member of that place, which it has, in memory of its own.
func member(list api.Value, place int64) api.Value {
	rest := list[1:]
	for range place {
		rest = rest[nodes(rest):]
	}
	return slices.Clone(rest[:nodes(rest)])
}

// nodes is how many nodes the first one of the right values has with which v begins.
func nodes(v api.Value) int {
	n := 0
	for left := 1; left > 0; n++ {
		left += v[n].Kids - 1
	}
	return n
}
