package frame

import (
	"bytes"

	"prompter/api"
)

// Reader is fed bytes in pieces, and takes frames out of them.
type Reader struct {
	made  bool
	left  int       // how many bytes were fed and not taken
	rest  []byte    // these bytes; none once the reader has broken, since nothing asks for them any more
	taken int       // how many bytes were taken
	fault api.Errno // what broke the reader
}

// New is a reader that was fed nothing.
func New() *Reader {
	return &Reader{made: true}
}

// Feed puts b behind what is left, and takes the frames with which that begins; what is wrong behind them breaks the reader.
func (r *Reader) Feed(b []byte) (bodies [][]byte, e api.Errno) {
	if r == nil || !r.made {
		return nil, api.ErrArg
	}
	if r.fault != api.OK {
		return nil, r.fault
	}
	r.rest = append(r.rest, b...)
	bodies, n, e := Split(r.rest)
	r.take(n)
	if e == api.ErrShort {
		return bodies, api.OK
	}
	if e != api.OK {
		r.fault, r.rest = e, nil
	}
	return bodies, e
}

// take takes n bytes away. What is left then came with the last piece, as no whole frame was left ahead of it: to copy it costs no more than that piece did.
func (r *Reader) take(n int) {
	if n > 0 {
		r.rest = bytes.Clone(r.rest[n:])
	}
	r.left = len(r.rest)
	r.taken += n
}

// Left is how many bytes were fed and not taken.
func (r *Reader) Left() int {
	if r == nil {
		return 0
	}
	return r.left
}

// Taken is how many bytes the frames had that were taken.
func (r *Reader) Taken() int {
	if r == nil {
		return 0
	}
	return r.taken
}
