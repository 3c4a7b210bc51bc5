package instr_test

import (
	"bytes"
	"slices"
	"testing"

	"prompter/api"
	"prompter/instr"
)

// roomy is l with spare room behind it, in which there is so often x.
func roomy[E any](l []E, x E) []E {
	return append(slices.Clone(l), slices.Repeat([]E{x}, 9)...)[:len(l)]
}

// spoil puts x everywhere into l, into its spare room too.
func spoil[E any](l []E, x E) {
	l = l[:cap(l)]
	for i := range l {
		l[i] = x
	}
}

// spare is what stands in the spare room of a code.
var spare = api.Instr{Op: 99, A: 99, Text: "spare"}

// own holds the memory of the calls that are handed a code: it is only read, what is answered is new.
func own(t *testing.T, l []api.Instr, params int) {
	t.Helper()
	h := roomy(l, spare)
	want := plainCheck(l, params)
	var depths [][]int
	var written [][]byte
	var lists []string
	for range 3 {
		instr.Check(h, params)
		d, _ := instr.Depths(h, params)
		b, _ := instr.Bytes(h)
		s, _ := instr.List(h)
		depths, written, lists = append(depths, d), append(written, b), append(lists, s)
	}
	if is := roomy(l, spare); !slices.Equal(h[:len(l)+9], is[:len(l)+9]) {
		t.Fatalf("%s was changed: %s", short(l), short(h[:len(l)+9]))
	}
	spoil(h, spare)
	spoil(depths[0], 77)
	spoil(written[0], 77)
	for i := range 2 {
		if !slices.Equal(depths[i+1], want.depths) {
			t.Fatalf("%s: Depths %v", short(l), depths[i+1])
		}
		if plainWrong(l) < 0 && (!bytes.Equal(written[i+1], plainBytes(l)) || lists[i] != plainList(l)) {
			t.Fatalf("%s: Bytes %x, List %q", short(l), written[i+1], lists[i])
		}
	}
	isPlain(t, l, params)
}

// ownRead holds the memory of Read and Unlist.
func ownRead(t *testing.T, b []byte, s string) {
	t.Helper()
	h := roomy(b, 77)
	want, wantLines := plainRead(b), plainUnlist(s)
	x, y := read(h), read(h)
	v, _, _ := instr.Unlist(s)
	w, _, _ := instr.Unlist(s)
	if is := roomy(b, 77); !bytes.Equal(h[:len(b)+9], is[:len(b)+9]) {
		t.Fatalf("%x was changed: %x", b, h[:len(b)+9])
	}
	spoil(h, 77)
	spoil(x.code, spare)
	spoil(v, spare)
	if !slices.Equal(y.code, want.code) || !slices.Equal(w, wantLines.code) {
		t.Fatalf("Read %s, Unlist %s", short(y.code), short(w))
	}
	isRead(t, b, want)
	isUnlisted(t, s, wantLines)
}

func TestMemory(t *testing.T) { // P14.8
	all := [][]api.Instr{nil, few, code("end"), code("load 0; int 1; add; return; end"), code("jump 2; drop; end"), code("jump 0"), code("drop; end"), {{Op: 7}}, make([]api.Instr, 8193)}
	d := draws(21)
	for range 500 {
		all = append(all, d.code(d.below(9)), d.flow(d.below(30)))
	}
	for _, l := range all {
		own(t, l, 2)
		if plainWrong(l) < 0 && len(l) <= 8192 {
			ownRead(t, plainBytes(l), plainList(l))
			ownRead(t, append(plainBytes(l), 0), plainList(l)+" ")
		}
	}
	own(t, code("end"), -1)
}

// TestAgain holds that no call hangs on those ahead of it.
func TestAgain(t *testing.T) { // P14.8
	good, bad := code("load 0; int 1; add; return; end"), code("true; jump 0")
	for range 3 {
		isChecked(t, good, 1, checked{1, 2, 0, api.OK, []int{0, 1, 2, 1, -1}})
		isChecked(t, bad, 0, checked{at: 1, e: api.ErrStack})
		isRead(t, []byte("\x01"), readCode{nil, 1, api.ErrShort})
		isRead(t, []byte("\x01\x1c"), readCode{code("end"), 2, api.OK})
		isUnlisted(t, "0 x\n", readCode{nil, 0, api.ErrText})
		isUnlisted(t, "0 end\n", readCode{code("end"), 0, api.OK})
	}
}
