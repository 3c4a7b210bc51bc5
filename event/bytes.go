package event

import (
	"prompter/api"
	"prompter/code"
	"prompter/scan"
)

// Bytes are the bytes of a right event.
func Bytes(x api.Event) ([]byte, api.Errno) {
	k := table()
	if !k.allow(x) {
		return nil, api.ErrShape
	}
	return k.put(nil, x), api.OK
}

// Read is the event with whose bytes b begins, and how many these are; or an error and its place.
func Read(b []byte) (api.Event, int, api.Errno) {
	r := readerOf(b)
	return scan.Answer(&r.Reader, r.event())
}

// Pack is the bytes of right events, behind their number.
func Pack(l []api.Event) ([]byte, api.Errno) {
	if len(l) > api.MaxEvents {
		return nil, api.ErrLong
	}
	k := table()
	b := code.PutUint(uint64(len(l)))
	for _, x := range l {
		if !k.allow(x) {
			return nil, api.ErrShape
		}
		b = k.put(b, x)
	}
	return b, api.OK
}

// Unpack is the events of which b are the bytes, and how many these are; or an error and its place.
func Unpack(b []byte) ([]api.Event, int, api.Errno) {
	r := historyReader{readerOf(b)}
	return scan.Answer(&r.Reader, r.history())
}

// put puts the bytes of the right event x behind b.
func (k kinds) put(b []byte, x api.Event) []byte {
	b = append(b, x.Kind)
	f := k[x.Kind]
	if f.id.are() {
		b = append(b, code.PutUint(uint64(x.Id))...)
	}
	if f.name {
		b = append(b, code.PutText(x.Name)...)
	}
	if f.value != nothing {
		v, _ := code.PutValue(x.Value) // of a right event no error comes
		b = append(b, v...)
	}
	if f.int.are() {
		b = append(b, code.PutInt(x.Int)...)
	}
	return b
}

// reader reads events.
type reader struct {
	scan.Reader
	kinds kinds
}

// readerOf is a reader of b.
func readerOf(b []byte) reader {
	return reader{scan.Of(b), table()}
}

// event reads an event.
func (r *reader) event() api.Event {
	first := r.Place()
	x := api.Event{Kind: r.Byte()}
	f := r.kinds[x.Kind]
	if f.id.are() {
		x.Id = r.Capped(api.MaxHandles) // which is no handle
	}
	if f.name {
		x.Name = scan.Field(&r.Reader, code.ReadText)
	}
	if f.value != nothing {
		x.Value = scan.Field(&r.Reader, code.ReadValue)
	}
	if f.int.are() {
		x.Int = scan.Field(&r.Reader, code.ReadInt)
	}
	if !r.kinds.allow(x) {
		r.Refuse(first, api.ErrShape)
	}
	return x
}

// historyReader reads a history.
type historyReader struct{ reader }

// history reads all events, behind which nothing comes.
func (r *historyReader) history() []api.Event {
	var l []api.Event
	n := r.Count(api.MaxEvents)
	for len(l) < n && r.Well() {
		l = append(l, r.event())
	}
	r.End()
	return l
}
