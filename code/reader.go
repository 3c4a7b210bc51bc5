package code

import (
	"math"

	"prompter/api"
	"prompter/plane"
)

// lastShift is by how many bits the tenth byte of a number, the last one that may be, is shifted: only one bit is left for it.
const lastShift = 9 * perByte

// reader goes through bytes from the first one on, and gives up at the first fault.
type reader struct {
	bytes []byte
	place int // of the byte that comes next
}

// next takes a byte.
func (r *reader) next() byte {
	if r.place == len(r.bytes) {
		giveUp(api.ErrShort, r.place)
	}
	c := r.bytes[r.place]
	r.place++
	return c
}

// take takes n bytes, as a text.
func (r *reader) take(n uint64) string {
	left := r.bytes[r.place:]
	if n > uint64(len(left)) {
		giveUp(api.ErrShort, len(r.bytes))
	}
	r.place += int(n)
	return string(left[:n])
}

// number takes a number from 0 on.
func (r *reader) number() uint64 {
	n := uint64(0)
	for shift := 0; ; shift += perByte {
		c := r.next()
		if shift > 0 && c == 0 || shift == lastShift && c != 1 {
			giveUp(api.ErrShape, r.place-1)
		}
		n |= uint64(c&^more) << shift
		if c < more {
			return n
		}
	}
}

// atMost takes a number from 0 on that is not above most.
func (r *reader) atMost(most int) int {
	first := r.place
	n := r.number()
	if n > uint64(most) {
		giveUp(api.ErrLong, first)
	}
	return int(n)
}

// whole takes a whole number.
func (r *reader) whole() int64 {
	return unfold(r.number())
}

// text takes a text.
func (r *reader) text() string {
	return r.take(r.number())
}

// num takes a complex number.
func (r *reader) num() complex128 {
	first := r.place
	re := r.part()
	im := r.part()
	z := complex(re, im)
	if !plane.Fine(z) {
		giveUp(api.ErrRange, first)
	}
	return z
}

// part takes the bits of a float.
func (r *reader) part() float64 {
	bits := uint64(0)
	for range partBits / 8 {
		bits = bits<<8 | uint64(r.next())
	}
	return math.Float64frombits(bits)
}

// bit takes a byte that is 0 or 1.
func (r *reader) bit() int64 {
	c := r.next()
	if c > 1 {
		giveUp(api.ErrShape, r.place-1)
	}
	return int64(c)
}

// value takes a value.
func (r *reader) value() api.Value {
	var v api.Value
	room := api.MaxSize
	for left := 1; left > 0; left-- { // left is how many values must still come
		first := r.place
		kind := r.next() // ahead of what is too much: where the bytes end no node begins
		if len(v) == api.MaxNodes || room == 0 {
			giveUp(api.ErrLong, first)
		}
		n := r.node(kind, room-1)
		v = append(v, n)
		room -= 1 + len(n.Text)
		left += n.Kids
	}
	return v
}

// all takes a value behind which nothing comes.
func (r *reader) all() api.Value {
	v := r.value()
	if r.place < len(r.bytes) {
		giveUp(api.ErrShape, r.place)
	}
	return v
}

// node takes what comes behind a node's kind; its text may have room bytes.
func (r *reader) node(kind byte, room int) api.Node {
	n := api.Node{Kind: kind}
	switch kind {
	case api.KNone:
	case api.KBool:
		n.Int = r.bit()
	case api.KInt:
		n.Int = r.whole()
	case api.KText:
		n.Text = r.take(uint64(r.atMost(room)))
	case api.KNum:
		n.Num = r.num()
	case api.KList:
		n.Kids = r.atMost(api.MaxNodes)
	default:
		giveUp(api.ErrShape, r.place-1)
	}
	return n
}
