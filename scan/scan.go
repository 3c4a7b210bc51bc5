// Package scan goes through bytes from the first one on, field by field, up to the first fault. It is no layer: the layers that read things of several fields share it.
package scan

import (
	"prompter/api"
	"prompter/code"
)

// Reader goes through bytes, up to the first fault: behind that it reads nothing more.
type Reader struct {
	bytes []byte
	place int // of the byte that comes next; of the fault, if there is one
	fault api.Errno
}

// Of is a reader of b.
func Of(b []byte) Reader {
	return Reader{bytes: b}
}

// Field is what read reads off the bytes that come next; the zero value behind a fault.
func Field[T any](r *Reader, read func(b []byte) (T, int, api.Errno)) (x T) {
	if r.fault != api.OK {
		return x
	}
	x, n, e := read(r.bytes[r.place:])
	r.place += n
	r.fault = e
	return x
}

// Answer is x, what was read, and how many bytes that took; or the fault and its place.
func Answer[T any](r *Reader, x T) (T, int, api.Errno) {
	if r.fault != api.OK {
		var none T
		return none, r.place, r.fault
	}
	return x, r.place, api.OK
}

// Place is that of the byte that comes next.
func (r *Reader) Place() int {
	return r.place
}

// Well tells whether there was no fault.
func (r *Reader) Well() bool {
	return r.fault == api.OK
}

// Byte is the byte that comes next.
func (r *Reader) Byte() byte {
	return Field(r, first)
}

// Count is the number from 0 on that comes next; it is too long, if it is above most.
func (r *Reader) Count(most int) int {
	place := r.place
	n := Field(r, code.ReadUint)
	if n > uint64(most) {
		r.Refuse(place, api.ErrLong)
		return 0
	}
	return int(n)
}

// Capped is the number from 0 on that comes next, or most, if that is less: so that it never wraps, for those to whom most is too much.
func (r *Reader) Capped(most int) int {
	return int(min(Field(r, code.ReadUint), uint64(most)))
}

// Refuse tells a fault at that place, unless there is one already.
func (r *Reader) Refuse(place int, e api.Errno) {
	if r.fault == api.OK {
		r.place, r.fault = place, e
	}
}

// End refuses the byte that comes next, if there is one.
func (r *Reader) End() {
	if r.place < len(r.bytes) {
		r.Refuse(r.place, api.ErrShape)
	}
}

// first is the byte with which b begins.
func first(b []byte) (byte, int, api.Errno) {
	if len(b) == 0 {
		return 0, 0, api.ErrShort
	}
	return b[0], 1, api.OK
}
