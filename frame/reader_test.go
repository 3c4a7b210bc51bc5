package frame_test

import (
	"bytes"
	"slices"
	"testing"

	"prompter/api"
	"prompter/frame"
)

// plain is a reader that keeps all that it was fed and splits all of it each time.
type plain struct {
	fed   []byte
	told  int
	taken int
	fault api.Errno
}

func (p *plain) feed(b []byte) ([][]byte, api.Errno) {
	if p.fault != api.OK {
		return nil, p.fault
	}
	p.fed = append(p.fed, b...)
	l, n, e := split(p.fed)
	now := l[p.told:]
	p.told, p.taken = len(l), n
	if e != api.ErrShort {
		p.fault = e
	}
	return now, p.fault
}

// both is a reader, and the plain one that is fed the same.
type both struct {
	reader *frame.Reader
	plain  plain
}

func fresh() *both {
	return &both{reader: frame.New()}
}

// feed feeds both, and fails unless they tell the same.
func (x *both) feed(t *testing.T, b []byte) {
	t.Helper()
	l, e := x.plain.feed(b)
	gotL, gotE := x.reader.Feed(b)
	if !slices.EqualFunc(gotL, l, bytes.Equal) || gotE != e {
		t.Errorf("Feed of %.40x (%d bytes) behind %d: %.40x, %d, not %.40x, %d", b, len(b), len(x.plain.fed), gotL, gotE, l, e)
	}
	x.stands(t)
}

// stands fails unless both have as much left and taken.
func (x *both) stands(t *testing.T) {
	t.Helper()
	left, taken := len(x.plain.fed)-x.plain.taken, x.plain.taken
	if x.reader.Left() != left || x.reader.Taken() != taken {
		t.Errorf("behind %d bytes: %d left, %d taken, not %d, %d", len(x.plain.fed), x.reader.Left(), x.reader.Taken(), left, taken)
	}
}

func TestNew(t *testing.T) { // P6.4
	x := fresh()
	x.stands(t)
	for range 3 {
		x.feed(t, nil)
		x.feed(t, []byte{})
	}
	if r := frame.New(); r == nil || r == frame.New() || r.Left() != 0 || r.Taken() != 0 {
		t.Error("New is not a reader that was fed nothing")
	}
}

func TestFeed(t *testing.T) { // P6.4
	a, none := framed([]byte("a")), framed(nil)
	r := frame.New()
	if l, e := r.Feed(a[:5]); len(l) != 0 || e != api.OK || r.Left() != 5 || r.Taken() != 0 {
		t.Errorf("Feed of five bytes: %q, %d, %d left, %d taken", l, e, r.Left(), r.Taken())
	}
	if l, e := r.Feed(slices.Concat(a[5:], none)); len(l) != 2 || string(l[0]) != "a" || len(l[1]) != 0 || e != api.OK || r.Left() != 0 || r.Taken() != 25 {
		t.Errorf("Feed of the others: %q, %d, %d left, %d taken", l, e, r.Left(), r.Taken())
	}
	if l, e := r.Feed(slices.Concat(a, none[:11])); len(l) != 1 || e != api.OK || r.Left() != 11 || r.Taken() != 38 {
		t.Errorf("Feed of one and a part: %q, %d, %d left, %d taken", l, e, r.Left(), r.Taken())
	}
	if l, e := r.Feed(nil); len(l) != 0 || e != api.OK || r.Left() != 11 || r.Taken() != 38 {
		t.Errorf("Feed of nothing: %q, %d, %d left, %d taken", l, e, r.Left(), r.Taken())
	}
	if l, e := r.Feed(slices.Concat(none[11:], a[:1])); len(l) != 1 || e != api.OK || r.Left() != 1 || r.Taken() != 50 {
		t.Errorf("Feed of the last byte: %q, %d, %d left, %d taken", l, e, r.Left(), r.Taken())
	}
}

// faults are bytes at which a reader breaks, and the error.
func faults() map[string]api.Errno {
	wrong := framed([]byte("x"))
	wrong[9] ^= 1
	return map[string]api.Errno{
		string(wrong):                      api.ErrSum,
		"no sum at all":                    api.ErrSum,
		string(make([]byte, 8)):            api.ErrSum,
		string(headed(api.MaxFrame + 1)):   api.ErrLong,
		string(headed(1<<32-1)) + "behind": api.ErrLong,
	}
}

func TestFeedOfWhatIsWrong(t *testing.T) { // P6.4
	two := slices.Concat(framed([]byte("ok")), framed([]byte("too")))
	for fault, want := range faults() {
		x := fresh()
		x.feed(t, two)
		x.feed(t, slices.Concat(two, []byte(fault)))
		if e := x.plain.fault; e != want || x.reader.Left() != len(fault) || x.reader.Taken() != 2*len(two) {
			t.Errorf("%q: %d, %d left, %d taken", fault, e, x.reader.Left(), x.reader.Taken())
		}
		for _, b := range [][]byte{nil, two, {0}, []byte(fault), make([]byte, 1000)} {
			if l, e := x.reader.Feed(b); len(l) != 0 || e != want {
				t.Errorf("broken by %q, fed %q: %q, %d, not %d", fault, b, l, e, want)
			}
			x.feed(t, b)
		}
	}
}

func TestReadersThatNobodyMade(t *testing.T) { // P6.4
	var nobody *frame.Reader
	for _, r := range []*frame.Reader{nobody, new(frame.Reader), {}} {
		for _, b := range [][]byte{nil, framed([]byte("a")), []byte("no sum at all")} {
			if l, e := r.Feed(b); len(l) != 0 || e != api.ErrArg || r.Left() != 0 || r.Taken() != 0 {
				t.Errorf("Feed of %q: %q, %d, %d left, %d taken", b, l, e, r.Left(), r.Taken())
			}
		}
	}
}

func TestReadersKnowNothingOfOneAnother(t *testing.T) { // P6.4
	a, b, c := fresh(), fresh(), fresh()
	one, two := framed([]byte("one")), framed([]byte("another"))
	for i := range len(one) {
		a.feed(t, one[i:i+1])
		b.feed(t, two[i:i+1])
		c.feed(t, []byte{9})
	}
	b.feed(t, two[len(one):])
	for _, x := range []*both{a, b, c} {
		x.stands(t)
	}
}
