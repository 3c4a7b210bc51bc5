package event_test

import (
	"bytes"
	"slices"
	"testing"

	"prompter/api"
	"prompter/event"
)

// What stands in spare room.
var (
	spareNode  = api.Node{Kind: 9, Text: "spare"}
	spareEvent = api.Event{Kind: 99, Name: "spare"}
)

// roomy is l with spare room behind it, and behind the values in it.
func roomy(l []api.Event) []api.Event {
	l = append(slices.Clone(l), slices.Repeat([]api.Event{spareEvent}, 5)...)[:len(l)]
	for i := range l {
		n := len(l[i].Value)
		l[i].Value = append(slices.Clone(l[i].Value), slices.Repeat(api.Value{spareNode}, 5)...)[:n]
	}
	return l
}

// wholly is l with all its spare room, each value of it too.
func wholly(l []api.Event) []api.Event {
	l = slices.Clone(l[:cap(l)])
	for i := range l {
		l[i].Value = l[i].Value[:cap(l[i].Value)]
	}
	return l
}

// spoil changes all events of l, their values, and all spare room.
func spoil(l []api.Event) {
	for i := range l {
		fill(l[i].Value, spareNode)
	}
	fill(l, spareEvent)
}

// fill puts x everywhere into l, into its spare room too.
func fill[L ~[]E, E any](l L, x E) {
	l = l[:cap(l)]
	for i := range l {
		l[i] = x
	}
}

// told is what all calls that are handed events answer.
type told struct {
	checks []api.Errno
	at     int
	form   api.Errno
	open   []int
	ended  bool
	same   bool
	copied []api.Event
	each   [][]byte
	packed []byte
}

// ask asks all calls that are handed events.
func ask(l []api.Event) (x told) {
	for i := range l {
		x.checks = append(x.checks, event.Check(l[i]))
		b, _ := event.Bytes(l[i])
		x.each = append(x.each, b)
	}
	x.at, x.form = event.Form(l)
	x.open, x.ended, x.same, x.copied = event.Open(l), event.Ended(l), event.Same(l, l), event.Copy(l)
	x.packed, _ = event.Pack(l)
	return x
}

// isTold fails unless x and y are the same answers.
func isTold(t *testing.T, x, y told) {
	t.Helper()
	if !slices.Equal(x.checks, y.checks) || x.at != y.at || x.form != y.form || !slices.Equal(x.open, y.open) || x.ended != y.ended || x.same != y.same ||
		!slices.EqualFunc(x.copied, y.copied, equal) || !slices.EqualFunc(x.each, y.each, bytes.Equal) || !bytes.Equal(x.packed, y.packed) {
		t.Fatalf("answers are not the same:\n%.500v\n%.500v", x, y)
	}
}

// own holds the memory of the calls that are handed events: these are only read, what is answered is new.
func own(t *testing.T, l []api.Event) {
	t.Helper()
	h, was := roomy(l), roomy(l)
	if !event.Same(h, was) || !event.Same(was, h) {
		t.Fatalf("%s is not the same with spare room", short(l...))
	}
	first, second, third := ask(h), ask(h), ask(h)
	n := len(l) + 5
	if !slices.EqualFunc(wholly(h)[:n], wholly(was)[:n], equal) {
		t.Fatalf("%s was changed", short(l...))
	}
	spoil(h)
	isTold(t, first, second)
	spoil(first.copied)
	fill(first.open, 77)
	fill(first.packed, 77)
	for i := range first.each {
		fill(first.each[i], 77)
	}
	isTold(t, second, third)
	isTold(t, third, ask(was))
}

// ownRead holds the memory of the calls that read.
func ownRead(t *testing.T, b []byte) {
	t.Helper()
	h := append(slices.Clone(b), "spare"...)[:len(b)]
	first, _, _ := event.Unpack(h)
	second, _, _ := event.Unpack(h)
	var one, two api.Event
	if len(h) > 0 {
		one, _, _ = event.Read(h[1:])
		two, _, _ = event.Read(h[1:])
	}
	if !bytes.Equal(h[:len(b)+5], append(slices.Clone(b), "spare"...)) {
		t.Fatalf("%.200x was changed", b)
	}
	fill(h, 77)
	spoil(first)
	fill(one.Value, spareNode)
	if l, _, _ := plainUnpack(b); !slices.EqualFunc(second, l, equal) {
		t.Fatalf("Unpack of %.200x: %s", b, short(second...))
	}
	if x, _, _ := plainRead(b[min(1, len(b)):]); !equal(two, x) {
		t.Fatalf("Read of %.200x: %s", b, short(two))
	}
	isPlainRead(t, b)
}

// apart fails if two lists of l share memory.
func apart(t *testing.T, l []api.Event) {
	t.Helper()
	was := make([]api.Value, len(l))
	for i := range l {
		was[i] = slices.Clone(l[i].Value)
	}
	for i := range l {
		fill(l[i].Value, spareNode)
		for j := i + 1; j < len(l); j++ {
			if !slices.Equal(l[j].Value, was[j]) {
				t.Fatalf("the events %d and %d share memory", i, j)
			}
		}
	}
}

func TestMemory(t *testing.T) { // P17.6
	d := draws(13)
	all := [][]api.Event{nil, {}, samples(), few(), history(started(), decided(1), called(0)), make([]api.Event, 9)}
	for range 200 {
		l := d.history(d.below(30))
		all = append(all, l, append(slices.Clip(l), d.changed(samples())...))
	}
	for _, l := range all {
		own(t, l)
		ownRead(t, plainPack(l))
		ownRead(t, append(plainPack(l), 0))
		apart(t, event.Copy(l))
		back, _, _ := event.Unpack(plainPack(l))
		apart(t, back)
	}
	own(t, filled(history(started(), decided(1), called(0)), 4096))
	own(t, filled(history(started()), 4097))
}

// TestAgain holds that no call hangs on those ahead of it.
func TestAgain(t *testing.T) { // P17.6
	good, cut, bad := history(started(), decided(1), called(0)), history(started(), decided(1)), history(started(), started())
	for range 3 {
		isFormed(t, good, 0, api.OK)
		isFormed(t, cut, 2, api.ErrShort)
		isFormed(t, bad, 1, api.ErrShape)
		isRead(t, []byte("\x0b"), api.Event{}, 1, api.ErrShort)
		isRead(t, []byte("\x0b\x07"), fired(7), 2, api.OK)
		isUnpacked(t, []byte("\x01\x0d"), nil, 1, api.ErrShape)
		isUnpacked(t, []byte("\x01\x0b\x07"), history(fired(7)), 3, api.OK)
	}
}
