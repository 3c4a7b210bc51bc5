package value

import (
	"slices"

	"prompter/api"
	"prompter/plane"
)

// None is nothing.
func None() api.Value {
	return api.Value{{Kind: api.KNone}}
}

// Bool is that bool.
func Bool(b bool) api.Value {
	bit := int64(0)
	if b {
		bit = 1
	}
	return node(api.KBool, bit, intOf)
}

// Int is that whole number.
func Int(x int64) api.Value {
	return node(api.KInt, x, intOf)
}

// Text is that text, unless it is too long.
func Text(s string) (api.Value, api.Errno) {
	if len(s) > api.MaxSize-1 {
		return nil, api.ErrLong
	}
	return node(api.KText, s, textOf), api.OK
}

// Num is that number, plain, if it is finite.
func Num(z complex128) (api.Value, api.Errno) {
	z = plane.Plain(z)
	if !plane.Fine(z) {
		return nil, api.ErrRange
	}
	return node(api.KNum, z, numOf), api.OK
}

// List is the list of l, if all of l are right and it is not too large.
func List(l []api.Value) (api.Value, api.Errno) {
	// All members are checked ahead of anything else: a wrong one goes ahead of what is too large.
	for _, m := range l {
		if e := Check(m); e != api.OK {
			return nil, e
		}
	}
	list := node(api.KList, len(l), kidsOf)
	for _, m := range l {
		if len(list)+len(m) > api.MaxNodes {
			return nil, api.ErrLong
		}
		list = append(list, m...)
	}
	if size(list) > api.MaxSize {
		return nil, api.ErrLong
	}
	return list, api.OK
}

// Members are the members of a list, each in memory of its own.
func Members(v api.Value) ([]api.Value, api.Errno) {
	if e := Check(v); e != api.OK {
		return nil, e
	}
	if v[0].Kind != api.KList {
		return nil, api.ErrShape
	}
	own := slices.Clone(v)
	members := make([]api.Value, 0, v[0].Kids)
	from, missing := 1, v[0].Kids
	for place, left := range nodes(own) {
		if left < missing { // a member ends here
			end := place + 1
			members = append(members, own[from:end:end])
			from, missing = end, left
		}
	}
	return members, api.OK
}

// node is a value of one node, of that kind, with x in the field that the kind uses.
func node[T any](kind byte, x T, field func(n *api.Node) *T) api.Value {
	n := api.Node{Kind: kind}
	*field(&n) = x
	return api.Value{n}
}

// kidsOf, intOf, textOf, numOf are the fields that kinds use.
func kidsOf(n *api.Node) *int       { return &n.Kids }
func intOf(n *api.Node) *int64      { return &n.Int }
func textOf(n *api.Node) *string    { return &n.Text }
func numOf(n *api.Node) *complex128 { return &n.Num }
