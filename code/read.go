package code

import "prompter/api"

// ReadUint is the number from 0 on with whose bytes b begins, and how many these are; or an error and its place, as of all that read.
func ReadUint(b []byte) (uint64, int, api.Errno) {
	return read(b, (*reader).number)
}

// ReadInt is the whole number with whose bytes b begins.
func ReadInt(b []byte) (int64, int, api.Errno) {
	return read(b, (*reader).whole)
}

// ReadText is the text with whose bytes b begins.
func ReadText(b []byte) (string, int, api.Errno) {
	return read(b, (*reader).text)
}

// ReadNum is the complex number with whose bytes b begins.
func ReadNum(b []byte) (complex128, int, api.Errno) {
	return read(b, (*reader).num)
}

// ReadValue is the value with whose bytes b begins.
func ReadValue(b []byte) (api.Value, int, api.Errno) {
	return read(b, (*reader).value)
}

// ReadAll is the value whose bytes are all of b.
func ReadAll(b []byte) (api.Value, int, api.Errno) {
	return read(b, (*reader).all)
}

// fault is what a reader gives up by: an error and its place.
type fault struct {
	code  api.Errno
	place int
}

// read is what do reads off b, and how many bytes it takes; or the fault by which it gives up.
func read[T any](b []byte, do func(r *reader) T) (x T, n int, e api.Errno) {
	defer func() {
		switch f := recover().(type) {
		case nil:
		case fault:
			n, e = f.place, f.code
		default: // nothing that the bytes can bring about: it must not look like an answer
			panic(f)
		}
	}()
	r := &reader{bytes: b}
	x = do(r)
	return x, r.place, api.OK
}

// giveUp ends the reading, from however deep inside.
func giveUp(code api.Errno, place int) {
	panic(fault{code, place})
}
