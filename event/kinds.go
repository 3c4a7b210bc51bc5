package event

import (
	"math"

	"prompter/api"
	"prompter/value"
)

// bounds are the least and the greatest number that a field may have; 0 and 0, if there is no such field.
type bounds struct{ least, most int64 }

// worth is what an event's Value is.
type worth int

// What a Value is.
const (
	nothing worth = iota // the event has no such field
	anything
	aList
)

// fields are those that the events of a kind have.
type fields struct {
	id    bounds
	name  bool
	value worth
	int   bounds
}

// kinds are the fields of events, by their Kind.
type kinds map[byte]fields

// table is the fields of all events.
func table() kinds {
	handle := bounds{0, api.MaxHandles - 1}
	most := int64(math.MaxInt64)
	return kinds{
		api.EvStarted:  {name: true, value: aList, int: bounds{0, most}},
		api.EvDecided:  {int: bounds{0, api.MaxHandles + 1}}, // an order for each handle, and the last one
		api.EvCalled:   {id: handle, name: true, value: aList},
		api.EvTimed:    {id: handle, int: bounds{0, most}},
		api.EvAsked:    {id: handle, name: true, value: aList},
		api.EvReturned: {value: anything},
		api.EvFailed:   {value: anything},
		api.EvFaulted:  {int: bounds{1, most}},
		api.EvDone:     {id: handle, value: anything},
		api.EvBroke:    {id: handle, int: bounds{1, most}},
		api.EvFired:    {id: handle},
		api.EvSignaled: {name: true, value: anything},
	}
}

// allow tells whether x is right.
func (k kinds) allow(x api.Event) bool {
	f, is := k[x.Kind]
	return is && f.id.hold(int64(x.Id)) && f.allowName(x.Name) && f.value.allow(x.Value) && f.int.hold(x.Int)
}

// allowName tells whether s may be the Name.
func (f fields) allowName(s string) bool {
	if f.name {
		return value.Name(s)
	}
	return s == ""
}

// allow tells whether v may be such a Value.
func (w worth) allow(v api.Value) bool {
	if w == nothing {
		return len(v) == 0
	}
	return value.Check(v) == api.OK && (w == anything || v[0].Kind == api.KList)
}

// hold tells whether n is within b.
func (b bounds) hold(n int64) bool {
	return b.least <= n && n <= b.most
}

// are tells whether there is a field with these bounds.
func (b bounds) are() bool {
	return b != bounds{}
}
