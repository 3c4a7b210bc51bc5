package code_test

import (
	"bytes"
	"slices"
	"strings"
	"testing"

	"prompter/api"
	"prompter/code"
	"prompter/value"
)

// same tells whether two values are the same, to the bits of their numbers.
func same(v, w api.Value) bool {
	return slices.EqualFunc(v, w, func(a, b api.Node) bool {
		return a.Kind == b.Kind && a.Kids == b.Kids && a.Int == b.Int && a.Text == b.Text && bitsOf(a.Num) == bitsOf(b.Num)
	})
}

// behinds are what may stand behind a thing's bytes.
var behinds = []string{"", "\x00", "\x01", "\xff", "\x80\x00", "\x05\x02\x00\x00", strings.Repeat("\xff", 20)}

// isTaken fails unless what was written is read as it was, whatever stands behind it; read tells whether it read the thing itself.
func isTaken(t *testing.T, name string, written []byte, read func(b []byte) (bool, int, api.Errno)) {
	t.Helper()
	for _, behind := range behinds {
		b := append(slices.Clone(written), behind...)
		if is, n, e := read(b); !is || n != len(written) || e != api.OK {
			t.Errorf("%s of %.60x (%d bytes), %x behind: %t, %d, %d", name, written, len(written), behind, is, n, e)
		}
	}
}

func TestWhatWasWrittenIsRead(t *testing.T) { // P5.5
	for _, x := range uints() {
		isTaken(t, "ReadUint", code.PutUint(x), func(b []byte) (bool, int, api.Errno) {
			y, n, e := code.ReadUint(b)
			return x == y, n, e
		})
	}
	for _, x := range ints() {
		isTaken(t, "ReadInt", code.PutInt(x), func(b []byte) (bool, int, api.Errno) {
			y, n, e := code.ReadInt(b)
			return x == y, n, e
		})
	}
	for _, x := range texts() {
		isTaken(t, "ReadText", code.PutText(x), func(b []byte) (bool, int, api.Errno) {
			y, n, e := code.ReadText(b)
			return x == y, n, e
		})
	}
	for _, x := range nums() {
		b, _ := code.PutNum(x)
		isTaken(t, "ReadNum", b, func(b []byte) (bool, int, api.Errno) {
			y, n, e := code.ReadNum(b)
			return bitsOf(x) == bitsOf(y), n, e
		})
	}
	for _, x := range right() {
		b, _ := code.PutValue(x)
		isTaken(t, "ReadValue", b, func(b []byte) (bool, int, api.Errno) {
			y, n, e := code.ReadValue(b)
			return same(x, y), n, e
		})
		if y, n, e := code.ReadAll(b); !same(x, y) || n != len(b) || e != api.OK {
			t.Errorf("ReadAll of %.60x: %d, %d", b, n, e)
		}
	}
}

// isShort fails unless of each beginning that is not all of b ErrShort is told, where it ends.
func isShort(t *testing.T, name string, b []byte) {
	t.Helper()
	do := readers()[name]
	step := 1 + len(b)/5000
	for n := 0; n < len(b); n += step {
		if got := do(b[:n:n]); got != (told{zeros[name], n, api.ErrShort}) {
			t.Errorf("%s of %d bytes of %.60x: %.60x, %d, %d", name, n, b, got.thing, got.n, got.e)
		}
	}
}

func TestBeginnings(t *testing.T) { // P5.5
	for _, x := range uints() {
		isShort(t, "ReadUint", code.PutUint(x))
	}
	for _, x := range ints() {
		isShort(t, "ReadInt", code.PutInt(x))
	}
	for _, x := range texts() {
		isShort(t, "ReadText", code.PutText(x))
	}
	for _, x := range nums() {
		b, _ := code.PutNum(x)
		isShort(t, "ReadNum", b)
	}
	for _, x := range right() {
		b, _ := code.PutValue(x)
		isShort(t, "ReadValue", b)
		isShort(t, "ReadAll", b)
	}
}

// areApart fails if one of these is the beginning of another one: sorted, it would stand just ahead of such a one.
func areApart(t *testing.T, name string, l [][]byte) {
	t.Helper()
	slices.SortFunc(l, bytes.Compare)
	for i, b := range l[1:] {
		if bytes.HasPrefix(b, l[i]) {
			t.Errorf("%s: %.60x is a beginning of %.60x", name, l[i], b)
		}
	}
}

func TestNoneIsABeginning(t *testing.T) { // P5.5
	written := map[string]map[string]bool{"numbers": {}, "whole numbers": {}, "values": {}}
	for n := range uint64(70000) {
		written["numbers"][string(code.PutUint(n))] = true
		written["whole numbers"][string(code.PutInt(int64(n)-35000))] = true
	}
	if n := len(written["numbers"]); n != 70000 {
		t.Errorf("70000 numbers are written in %d ways", n)
	}
	if n := len(written["whole numbers"]); n != 70000 {
		t.Errorf("70000 whole numbers are written in %d ways", n)
	}
	d := draws(3)
	for range 20000 {
		b, _ := code.PutValue(d.value(3))
		written["values"][string(b)] = true
	}
	for name, set := range written {
		var l [][]byte
		for s := range set {
			l = append(l, []byte(s))
		}
		areApart(t, name, l)
	}
}

// draws are numbers that a short rule strews.
type draws uint64

func (d *draws) below(n int) int {
	*d = 6364136223846793005**d + 1442695040888963407
	return int(*d>>33) % n
}

// value is a right value, with lists in one another down to that depth.
func (d *draws) value(depth int) api.Value {
	if depth > 0 && d.below(2) == 0 {
		kids := d.below(4)
		v := api.Value{list(kids)}
		for range kids {
			v = append(v, d.value(depth-1)...)
		}
		return v
	}
	leaves := []api.Node{none, no, yes, whole(int64(d.below(400) - 200)), whole(least), whole(greatest), text(""), text("ab"), text(long(d.below(300))), number(0), number(complex(float64(d.below(9)), -0.5))}
	return api.Value{leaves[d.below(len(leaves))]}
}

// TestChanged reads bytes of values in which something was changed, left out or put in.
func TestChanged(t *testing.T) { // P5.2, P5.3
	d := draws(5)
	for range 20000 {
		b, e := code.PutValue(d.value(4))
		if e != api.OK {
			t.Fatalf("PutValue: %d", e)
		}
		at := d.below(len(b))
		few := []byte{0, 1, 2, 3, 4, 5, 6, 0x80, 0xff, byte(d.below(256))}
		switch d.below(4) {
		case 0:
			b[at] ^= 1 << d.below(8)
		case 1:
			b[at] = few[d.below(len(few))]
		case 2:
			b = slices.Delete(b, at, at+1)
		default:
			b = slices.Insert(b, at, few[d.below(len(few))])
		}
		hold(t, b)
		hold(t, b[d.below(len(b)+1):])
	}
}

// TestStrewn reads bytes that mean nothing; what is read of them is right, and written again it is just what was taken.
func TestStrewn(t *testing.T) { // P5.5, P5.6
	d := draws(6)
	for range 100000 {
		b := make([]byte, d.below(30))
		for i := range b {
			b[i] = byte(d.below(7))
			if d.below(8) == 0 {
				b[i] = byte(d.below(256))
			}
		}
		hold(t, b)
		v, n, e := code.ReadValue(b)
		if e != api.OK {
			continue
		}
		again, e := code.PutValue(v)
		if value.Check(v) != api.OK || e != api.OK || !bytes.Equal(again, b[:n]) {
			t.Errorf("ReadValue of %x took %d bytes; written again %x, %d", b, n, again, e)
		}
	}
}

func TestWhatIsReadIsRight(t *testing.T) { // P5.6
	for _, v := range right() {
		b, _ := code.PutValue(v)
		for _, read := range []func(b []byte) (api.Value, int, api.Errno){code.ReadValue, code.ReadAll} {
			if w, _, e := read(b); value.Check(w) != api.OK || e != api.OK {
				t.Errorf("of %.60x there was read what is not right: %d, %d", b, value.Check(w), e)
			}
		}
	}
}

// roomy is b with spare room behind it, in which there is something.
func roomy(b []byte) []byte {
	return append(slices.Clone(b), "spare room that is nobody's"...)[:len(b)]
}

// spoil writes into all that b has, its spare room too.
func spoil(b []byte) {
	b = b[:cap(b)]
	for i := range b {
		b[i] = 0xee
	}
}

func TestReadingSharesNothing(t *testing.T) { // P5.4
	for _, x := range []string{"\x05\x02\x03\x02ab\x03\x03xyz", "\x05\x01\x00\x00", "\x05\x02\x03\x02ab\x06", "\x03\x05ab", "\x02ab", "\xac\x02", noughts[:20], ""} {
		for name, do := range readers() {
			b := roomy([]byte(x))
			do(b)
			if !bytes.Equal(b[:cap(b)][:len(x)+9], []byte(x+"spare roo")) {
				t.Errorf("%s changed %x to %x", name, x, b[:cap(b)])
			}
		}
	}
	b := roomy([]byte("\x05\x02\x03\x02ab\x03\x03xyz"))
	v, _, _ := code.ReadValue(b)
	w, _, _ := code.ReadAll(b)
	s, _, _ := code.ReadText(b)
	v[1].Text = "changed"
	had := strings.Clone(s)
	spoil(b)
	if wanted := (api.Value{list(2), text("ab"), text("xyz")}); !same(w, wanted) || v[2].Text != "xyz" || s != had {
		t.Errorf("what was read hangs on bytes or on what else was read: %v, %v, %q", v, w, s)
	}
}

func TestWritingSharesNothing(t *testing.T) { // P5.4
	v := append(api.Value{list(2), text("ab"), number(1)}, whole(7))[:3]
	for name, do := range map[string]func() []byte{
		"PutUint":  func() []byte { return code.PutUint(300) },
		"PutInt":   func() []byte { return code.PutInt(-150) },
		"PutText":  func() []byte { return code.PutText("ab") },
		"PutNum":   func() []byte { b, _ := code.PutNum(2i); return b },
		"PutValue": func() []byte { b, _ := code.PutValue(v); return b },
	} {
		first, second := do(), do()
		had := string(second)
		spoil(first)
		isBytes(t, name, second, had)
		isBytes(t, name, do(), had)
	}
	if wanted := (api.Value{list(2), text("ab"), number(1), whole(7)}); !same(v[:4], wanted) {
		t.Errorf("PutValue changed %v", v[:4])
	}
}
