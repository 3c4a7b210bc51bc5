package instr

import (
	"slices"

	"prompter/api"
	"prompter/code"
)

// Bytes are the bytes of right code.
func Bytes(code []api.Instr) ([]byte, api.Errno) {
	if e := writable(code); e != api.OK {
		return nil, e
	}
	return put(code), api.OK
}

// Read is the code of which b are the bytes, and how many these are; or an error and its place.
func Read(b []byte) ([]api.Instr, int, api.Errno) {
	r := &reader{bytes: b}
	l := r.all()
	if r.fault != api.OK {
		return nil, r.place, r.fault
	}
	return l, r.place, api.OK
}

// writable is OK, if l has bytes and a list.
func writable(l []api.Instr) api.Errno {
	if len(l) > api.MaxCode {
		return api.ErrLong
	}
	if _, are := allRight(l); !are {
		return api.ErrShape
	}
	return api.OK
}

// put is the bytes of right code.
func put(l []api.Instr) []byte {
	b := code.PutUint(uint64(len(l)))
	for _, in := range l {
		b = append(b, in.Op)
		f := fieldsOf(in.Op)
		if f.a != nothing {
			b = append(b, code.PutUint(uint64(in.A))...)
		}
		if f.int != nothing {
			b = append(b, code.PutInt(in.Int)...)
		}
		if f.text != nothing {
			b = append(b, code.PutText(in.Text)...)
		}
	}
	return slices.Clip(b)
}

// reader goes through bytes from the first one on, up to the first fault: behind that it reads nothing more.
type reader struct {
	bytes []byte
	place int // of the byte that comes next; of the fault, if there is one
	fault api.Errno
}

// field is what read reads off the bytes that come next.
func field[T any](r *reader, read func(b []byte) (T, int, api.Errno)) (x T) {
	if r.fault != api.OK {
		return x
	}
	x, n, e := read(r.bytes[r.place:])
	r.place += n
	r.fault = e
	return x
}

// refuse tells a fault at that place, unless there is one already.
func (r *reader) refuse(place int, e api.Errno) {
	if r.fault == api.OK {
		r.place, r.fault = place, e
	}
}

// all reads all instructions, behind which nothing comes.
func (r *reader) all() []api.Instr {
	var l []api.Instr
	n := field(r, code.ReadUint)
	if n > api.MaxCode {
		r.refuse(0, api.ErrLong)
	}
	for uint64(len(l)) < n && r.fault == api.OK {
		l = append(l, r.instr(int(n)))
	}
	if r.place < len(r.bytes) {
		r.refuse(r.place, api.ErrShape)
	}
	return l
}

// instr reads an instruction of a code of so many places.
func (r *reader) instr(places int) api.Instr {
	first := r.place
	in := api.Instr{Op: field(r, readByte)}
	f := fieldsOf(in.Op)
	if f.a != nothing {
		in.A = field(r, readA)
	}
	if f.int != nothing {
		in.Int = field(r, code.ReadInt)
	}
	if f.text != nothing {
		in.Text = field(r, code.ReadText)
	}
	if !isRight(in, places) {
		r.refuse(first, api.ErrShape)
	}
	return in
}

// readByte is the byte with which b begins.
func readByte(b []byte) (byte, int, api.Errno) {
	if len(b) == 0 {
		return 0, 0, api.ErrShort
	}
	return b[0], 1, api.OK
}

// readA is the number with whose bytes b begins. One that no field A may be, whatever the code, is told as another such one, so that it never wraps.
func readA(b []byte) (int, int, api.Errno) {
	n, took, e := code.ReadUint(b)
	return int(min(n, api.MaxCode)), took, e
}
