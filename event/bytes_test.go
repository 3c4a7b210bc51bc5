package event_test

import (
	"bytes"
	"slices"
	"strings"
	"testing"

	"prompter/api"
	"prompter/event"
)

// isRead fails unless Read answers that.
func isRead(t *testing.T, b []byte, want api.Event, at int, e api.Errno) {
	t.Helper()
	if x, n, is := event.Read(b); !equal(x, want) || n != at || is != e {
		t.Fatalf("Read of %.200x: %s, %d, %d, not %s, %d, %d", b, short(x), n, is, short(want), at, e)
	}
}

// isUnpacked fails unless Unpack answers that.
func isUnpacked(t *testing.T, b []byte, want []api.Event, at int, e api.Errno) {
	t.Helper()
	if l, n, is := event.Unpack(b); !slices.EqualFunc(l, want, equal) || n != at || is != e {
		t.Fatalf("Unpack of %.200x: %s, %d, %d, not %s, %d, %d", b, short(l...), n, is, short(want...), at, e)
	}
}

// isPlainRead fails unless Read and Unpack answer as the plain ones.
func isPlainRead(t *testing.T, b []byte) {
	t.Helper()
	x, at, e := plainRead(b)
	isRead(t, b, x, at, e)
	if e == api.OK {
		if again, e := event.Bytes(x); !bytes.Equal(again, b[:at]) || e != api.OK {
			t.Fatalf("Bytes of Read of %.200x: %.200x, %d", b, again, e)
		}
	}
	l, at, e := plainUnpack(b)
	isUnpacked(t, b, l, at, e)
	if e == api.OK {
		if again, e := event.Pack(l); !bytes.Equal(again, b) || e != api.OK {
			t.Fatalf("Pack of Unpack of %.200x: %.200x, %d", b, again, e)
		}
	}
}

func TestBytes(t *testing.T) { // P17.4
	for _, x := range []struct {
		x api.Event
		b string
	}{
		{started(), "\x01\x01f\x05\x00\x02"}, {decided(501), "\x02\xea\x07"}, {decided(0), "\x02\x00"}, {asked(0), "\x05\x00\x01g\x05\x00"}, {timed(300), "\x04\xac\x02\x0a"}, {returned(), "\x06\x00"}, {failed(), "\x07\x02\x0e"}, {faulted(), "\x08\x84\x02"},
		{done(128), "\x09\x80\x01\x02\x0e"}, {broke(499), "\x0a\xf3\x03\x0a"}, {fired(300), "\x0b\xac\x02"}, {fired(0), "\x0b\x00"}, {api.Event{Kind: api.EvSignaled, Name: "go", Value: nought}, "\x0c\x02go\x00"},
		{api.Event{Kind: api.EvCalled, Id: 1, Name: "pay", Value: api.Value{{Kind: api.KList, Kids: 1}, {Kind: api.KText, Text: "ab"}}}, "\x03\x01\x03pay\x05\x01\x03\x02ab"}, {api.Event{Kind: api.EvTimed, Int: 1<<63 - 1}, "\x04\x00\xfe\xff\xff\xff\xff\xff\xff\xff\xff\x01"},
	} {
		b, e := event.Bytes(x.x)
		if string(b) != x.b || e != api.OK {
			t.Errorf("Bytes of %s: %x, %d", short(x.x), b, e)
		}
		isRead(t, []byte(x.b), x.x, len(x.b), api.OK)
	}
	for _, x := range samples() {
		b, e := event.Bytes(x)
		if !bytes.Equal(b, plainBytes(x)) || e != api.OK {
			t.Errorf("Bytes of %s: %.200x, %d", short(x), b, e)
		}
		isRead(t, b, x, len(b), api.OK)
		isRead(t, append(b, b...), x, len(b), api.OK)
		isUnpacked(t, append([]byte{1}, b...), []api.Event{x}, len(b)+1, api.OK)
		for _, wrong := range changes(x) {
			if b, e := event.Bytes(wrong); e != event.Check(wrong) || e != api.OK && len(b) > 0 || e == api.OK && !bytes.Equal(b, plainBytes(wrong)) {
				t.Errorf("Bytes of %s: %.200x, %d", short(wrong), b, e)
			}
		}
	}
}

func TestRead(t *testing.T) { // P17.4
	nines := strings.Repeat("\xff", 9)
	for _, x := range []struct {
		b  string
		at int
		e  api.Errno
	}{
		{"", 0, api.ErrShort}, {"\x00", 0, api.ErrShape}, {"\x0d", 0, api.ErrShape}, {"\xff\x00", 0, api.ErrShape}, {"\x0d\x80\x00", 0, api.ErrShape},
		// An Id.
		{"\x0b", 1, api.ErrShort}, {"\x0b\x80", 2, api.ErrShort}, {"\x0b\x80\x00", 2, api.ErrShape}, {"\x0b\xf3\x03", 3, api.OK}, {"\x0b\xf4\x03", 0, api.ErrShape}, {"\x0b" + nines + "\x01", 0, api.ErrShape}, {"\x0b" + nines + "\x02", 10, api.ErrShape}, {"\x0b\x80\x80\x80\x80\x10", 0, api.ErrShape},
		{"\x0b\x80\x80\x80\x80\x80\x80\x80\x80\x80\x01", 0, api.ErrShape}, {"\x09\xf4\x03", 3, api.ErrShort}, {"\x09\xf4\x03\x00", 0, api.ErrShape}, {"\x09\xf4\x03\x06", 3, api.ErrShape}, {"\x04" + nines + "\x01", 11, api.ErrShort}, {"\x04" + nines + "\x01\x00", 0, api.ErrShape},
		// A name: what is wrong with its bytes, and with those behind it, goes ahead.
		{"\x0c", 1, api.ErrShort}, {"\x0c\x00", 2, api.ErrShort}, {"\x0c\x00\x00", 0, api.ErrShape}, {"\x0c\x01", 2, api.ErrShort}, {"\x0c\x01A", 3, api.ErrShort}, {"\x0c\x01A\x00", 0, api.ErrShape}, {"\x0c\x01A\x06", 3, api.ErrShape}, {"\x0c\x80\x00", 2, api.ErrShape}, {"\x0c" + nines + "\x01a", 12, api.ErrShort},
		{"\x0c\x18" + strings.Repeat("a", 24) + "\x00", 27, api.OK}, {"\x0c\x19" + strings.Repeat("a", 25) + "\x00", 0, api.ErrShape}, {"\x01\x01f\x05\x00", 5, api.ErrShort},
		// A value.
		{"\x06", 1, api.ErrShort}, {"\x06\x06", 1, api.ErrShape}, {"\x06\x01\x02", 2, api.ErrShape}, {"\x06\x05\x01", 3, api.ErrShort}, {"\x06\x05\x81\x08", 2, api.ErrLong}, {"\x06\x03\x80\x20", 2, api.ErrLong}, {"\x07\x04" + strings.Repeat("\xff", 16), 2, api.ErrRange}, {"\x09\x01\x04\x80" + strings.Repeat("\x00", 15), 3, api.ErrRange},
		{"\x03\x00\x01a\x00", 0, api.ErrShape}, {"\x03\x00\x01a\x05\x00", 6, api.OK}, {"\x05\x00\x01a\x02\x02", 0, api.ErrShape}, {"\x01\x01f\x00\x02", 0, api.ErrShape}, {"\x01\x01f\x00", 4, api.ErrShort},
		// An Int.
		{"\x02", 1, api.ErrShort}, {"\x02\x01", 0, api.ErrShape}, {"\x02\xea\x07", 3, api.OK}, {"\x02\xec\x07", 0, api.ErrShape}, {"\x02\x80\x00", 2, api.ErrShape}, {"\x04\x00\x01", 0, api.ErrShape}, {"\x04\x00", 2, api.ErrShort}, {"\x08\x00", 0, api.ErrShape}, {"\x08\x01", 0, api.ErrShape}, {"\x0a\x00\x00", 0, api.ErrShape}, {"\x0a\x00\x02", 3, api.OK},
		{"\x08" + nines + "\x01", 0, api.ErrShape}, {"\x08\xfe" + nines[1:] + "\x01", 11, api.OK}, {"\x08" + nines + "\x02", 10, api.ErrShape}, {"\x01\x01f\x05\x00\x01", 0, api.ErrShape}, {"\x01\x01A\x05\x00\x80\x00", 6, api.ErrShape},
	} {
		if x.e == api.OK {
			isPlainRead(t, []byte(x.b))
		} else {
			isRead(t, []byte(x.b), api.Event{}, x.at, x.e)
		}
		if _, at, e := event.Read([]byte(x.b)); at != x.at || e != x.e {
			t.Errorf("Read of %q: %d, %d", x.b, at, e)
		}
		isPlainRead(t, []byte(x.b))
		isPlainRead(t, []byte("\x01"+x.b))
		isPlainRead(t, []byte("\x02\x0b\x07"+x.b))
		isPlainRead(t, []byte("\x02\x0b\x07"+x.b+"\x0b\x07"))
	}
}

func TestPack(t *testing.T) { // P17.5
	for _, x := range []struct {
		l []api.Event
		b string
	}{
		{nil, "\x00"}, {history(started()), "\x01\x01\x01f\x05\x00\x02"}, {history(fired(1), fired(1), decided(1)), "\x03\x0b\x01\x0b\x01\x02\x02"}, {history(returned(), started()), "\x02\x06\x00\x01\x01f\x05\x00\x02"},
	} {
		b, e := event.Pack(x.l)
		if string(b) != x.b || e != api.OK {
			t.Errorf("Pack of %s: %x, %d", short(x.l...), b, e)
		}
		isUnpacked(t, b, x.l, len(b), api.OK)
	}
	for i := range samples() {
		l := samples()
		l[i].Int = -1
		if b, e := event.Pack(l); len(b) > 0 || e != api.ErrShape {
			t.Errorf("Pack of %s: %.200x, %d", short(l[i]), b, e)
		}
	}
}

func TestUnpack(t *testing.T) { // P17.5
	nines := strings.Repeat("\xff", 9)
	for _, x := range []struct {
		b  string
		at int
		e  api.Errno
	}{
		{"", 0, api.ErrShort}, {"\x80", 1, api.ErrShort}, {"\x80\x00", 1, api.ErrShape}, {nines, 9, api.ErrShort}, {nines + "\x02", 9, api.ErrShape}, {nines + "\x01", 0, api.ErrLong}, {"\x81\x20", 0, api.ErrLong}, {"\x81\x20\x0d", 0, api.ErrLong}, {"\x80\x20", 2, api.ErrShort}, {"\x80\x20\x0d", 2, api.ErrShape},
		{"\x80\x80\x80\x80\x10", 0, api.ErrLong}, {"\x80\x80\x80\x80\x80\x80\x80\x80\x80\x01", 0, api.ErrLong},
		{"\x00\x00", 1, api.ErrShape}, {"\x00\x0b\x00", 1, api.ErrShape}, {"\x01", 1, api.ErrShort}, {"\x01\x0b", 2, api.ErrShort}, {"\x01\x0d", 1, api.ErrShape}, {"\x01\x0b\x00\x00", 3, api.ErrShape}, {"\x01\x0b\xf4\x03\x00", 1, api.ErrShape}, {"\x02\x0b\x00", 3, api.ErrShort},
		{"\x02\x0b\x00\x0b\xf4\x03", 3, api.ErrShape}, {"\x02\x0b\x00\x0b\x80\x00", 5, api.ErrShape}, {"\x02\x0b\x00\x06\x06", 4, api.ErrShape}, {"\x02\x0b\x00\x06\x05\x81\x08", 5, api.ErrLong}, {"\x02\x0b\xf4\x03\x0d", 1, api.ErrShape}, {"\x03\x0b\x00\x0b\x00\x00", 5, api.ErrShape}, {"\x02\x0b\x00\x0b\x00\xff", 5, api.ErrShape},
	} {
		isUnpacked(t, []byte(x.b), nil, x.at, x.e)
		isPlainRead(t, []byte(x.b))
	}
}

// TestCutAndChanged holds all beginnings of some bytes, and what comes of it when a byte is another one, comes too or is left out.
func TestCutAndChanged(t *testing.T) { // P17.4, P17.5, P17.7
	l := history(started(), decided(5), called(0), timed(4), asked(128), called(300), failed(), done(0), broke(300), fired(4), signaled(), returned(), faulted())
	b := plainPack(l)
	isUnpacked(t, b, l, len(b), api.OK)
	for i := range b {
		isUnpacked(t, b[:i], nil, i, api.ErrShort)
		for c := range 256 {
			isUnpacked(t, append(slices.Clip(b), byte(c)), nil, len(b), api.ErrShape)
			x := slices.Clone(b)
			x[i] = byte(c)
			isPlainRead(t, x)
			isPlainRead(t, slices.Insert(slices.Clone(b), i, byte(c)))
		}
		isPlainRead(t, slices.Delete(slices.Clone(b), i, i+1))
	}
	for _, x := range l {
		b := plainBytes(x)
		for i := range b {
			isRead(t, b[:i], api.Event{}, i, api.ErrShort)
		}
	}
}

// TestAllShortBytes holds all bytes of few kinds up to a length.
func TestAllShortBytes(t *testing.T) { // P17.4, P17.5, P17.7
	kinds := []byte("\x00\x01\x02\x03\x05\x06\x0a\x0b\x0ca\x80\xff")
	all := [][]byte{nil}
	for range 5 {
		var longer [][]byte
		for _, b := range all {
			isPlainRead(t, b)
			for _, c := range kinds {
				longer = append(longer, append(slices.Clip(b), c))
			}
		}
		all = longer
	}
	for _, b := range all {
		isPlainRead(t, b)
	}
	for c := range 1 << 16 {
		for _, ahead := range []string{"", "\x01", "\x01\x0b", "\x03\x00\x01", "\x01\x09\x00"} {
			isPlainRead(t, append([]byte(ahead), byte(c>>8), byte(c)))
			isPlainRead(t, append([]byte(ahead), byte(c>>8), byte(c), 0))
		}
	}
}
