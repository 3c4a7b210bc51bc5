package instr

import (
	"slices"

	"prompter/api"
	"prompter/code"
	"prompter/scan"
)

// Bytes are the bytes of right code.
func Bytes(code []api.Instr) ([]byte, api.Errno) {
	if e := writable(code); e != api.OK {
		return nil, e
	}
	return put(code), api.OK
}

// Read is the code of which b are the bytes, and how many these are; or an error and its place.
func Read(b []byte) ([]api.Instr, int, api.Errno) {
	r := scan.Of(b)
	return scan.Answer(&r, readAll(&r))
}

// writable is OK, if l has bytes and a list.
func writable(l []api.Instr) api.Errno {
	if len(l) > api.MaxCode {
		return api.ErrLong
	}
	if _, are := allRight(l); !are {
		return api.ErrShape
	}
	return api.OK
}

// put is the bytes of right code.
func put(l []api.Instr) []byte {
	b := code.PutUint(uint64(len(l)))
	for _, in := range l {
		b = append(b, in.Op)
		f := fieldsOf(in.Op)
		if f.a != nothing {
			b = append(b, code.PutUint(uint64(in.A))...)
		}
		if f.int != nothing {
			b = append(b, code.PutInt(in.Int)...)
		}
		if f.text != nothing {
			b = append(b, code.PutText(in.Text)...)
		}
	}
	return slices.Clip(b)
}

// readAll reads all instructions, behind which nothing comes.
func readAll(r *scan.Reader) []api.Instr {
	var l []api.Instr
	n := r.Count(api.MaxCode)
	for len(l) < n && r.Well() {
		l = append(l, readInstr(r, n))
	}
	r.End()
	return l
}

// readInstr reads an instruction of a code of so many places.
func readInstr(r *scan.Reader, places int) api.Instr {
	first := r.Place()
	in := api.Instr{Op: r.Byte()}
	f := fieldsOf(in.Op)
	if f.a != nothing {
		in.A = r.Capped(api.MaxCode) // which no field A may be, whatever the code
	}
	if f.int != nothing {
		in.Int = scan.Field(r, code.ReadInt)
	}
	if f.text != nothing {
		in.Text = scan.Field(r, code.ReadText)
	}
	if !isRight(in, places) {
		r.Refuse(first, api.ErrShape)
	}
	return in
}
