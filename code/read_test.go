package code_test

import (
	"encoding/binary"
	"math"
	"strings"
	"testing"

	"prompter/api"
	"prompter/code"
)

// told is what a call that reads answered, whatever it read; the thing itself as bytes, so that all are held against each other in one way.
type told struct {
	thing string
	n     int
	e     api.Errno
}

// readers are the calls that read, by their names.
func readers() map[string]func(b []byte) told {
	return map[string]func(b []byte) told{
		"ReadUint": func(b []byte) told {
			x, n, e := code.ReadUint(b)
			return told{string(binary.AppendUvarint(nil, x)), n, e}
		},
		"ReadInt": func(b []byte) told {
			x, n, e := code.ReadInt(b)
			return told{string(binary.AppendVarint(nil, x)), n, e}
		},
		"ReadText": func(b []byte) told {
			x, n, e := code.ReadText(b)
			return told{string(binary.AppendUvarint(nil, uint64(len(x)))) + x, n, e}
		},
		"ReadNum": func(b []byte) told {
			x, n, e := code.ReadNum(b)
			return told{bitsOf(x), n, e}
		},
		"ReadValue": func(b []byte) told {
			x, n, e := code.ReadValue(b)
			return told{valueBytes(x), n, e}
		},
		"ReadAll": func(b []byte) told {
			x, n, e := code.ReadAll(b)
			return told{valueBytes(x), n, e}
		},
	}
}

// zeros are what stands for the zero value of what each reads.
var zeros = map[string]string{"ReadUint": "\x00", "ReadInt": "\x00", "ReadText": "\x00", "ReadNum": strings.Repeat("\x00", 16), "ReadValue": "", "ReadAll": ""}

// wantedNumber is where a number that begins at that place ends; or an error and its place.
func wantedNumber(b []byte, at int) (int, api.Errno) {
	heads := 0 // the bytes with 128 besides, with which it begins
	for heads < 9 && at+heads < len(b) && b[at+heads] >= 128 {
		heads++
	}
	last := at + heads
	switch {
	case last >= len(b):
		return len(b), api.ErrShort
	case heads == 9 && b[last] != 1, heads > 0 && b[last] == 0:
		return last, api.ErrShape
	}
	return last + 1, api.OK
}

// wantedText is where a text that begins at that place ends; or an error and its place.
func wantedText(b []byte, at int) (int, api.Errno) {
	end, e := wantedNumber(b, at)
	if e != api.OK {
		return end, e
	}
	if n, _ := binary.Uvarint(b[at:end]); n > uint64(len(b)-end) {
		return len(b), api.ErrShort
	} else {
		return end + int(n), api.OK
	}
}

// wantedNum is where a complex number that begins at that place ends; or an error and its place.
func wantedNum(b []byte, at int) (int, api.Errno) {
	if len(b)-at < 16 {
		return len(b), api.ErrShort
	}
	for _, part := range []uint64{binary.BigEndian.Uint64(b[at:]), binary.BigEndian.Uint64(b[at+8:])} {
		if x := math.Float64frombits(part); part == 1<<63 || math.IsNaN(x) || math.IsInf(x, 0) {
			return at, api.ErrRange
		}
	}
	return at + 16, api.OK
}

// ahead is how many nodes there are ahead of a place, and their size.
type ahead struct{ nodes, size int }

// wantedValue is where a value that begins at that place ends; or an error and its place. Member by member, as lists stand in one another.
func wantedValue(b []byte, at int, a *ahead) (int, api.Errno) {
	if at == len(b) {
		return at, api.ErrShort
	}
	if a.nodes >= 1024 || a.size+1 > 4096 {
		return at, api.ErrLong
	}
	a.nodes++
	a.size++
	switch b[at] {
	case 0:
		return at + 1, api.OK
	case 1:
		if at+1 == len(b) {
			return at + 1, api.ErrShort
		}
		if b[at+1] > 1 {
			return at + 1, api.ErrShape
		}
		return at + 2, api.OK
	case 2:
		return wantedNumber(b, at+1)
	case 3:
		return wantedShortText(b, at+1, a)
	case 4:
		return wantedNum(b, at+1)
	case 5:
		return wantedMembers(b, at+1, a)
	}
	return at, api.ErrShape
}

func wantedShortText(b []byte, at int, a *ahead) (int, api.Errno) {
	end, e := wantedNumber(b, at)
	if e != api.OK {
		return end, e
	}
	if n, _ := binary.Uvarint(b[at:end]); n > uint64(4096-a.size) {
		return at, api.ErrLong
	} else {
		a.size += int(n)
	}
	return wantedText(b, at)
}

func wantedMembers(b []byte, at int, a *ahead) (int, api.Errno) {
	end, e := wantedNumber(b, at)
	if e != api.OK {
		return end, e
	}
	kids, _ := binary.Uvarint(b[at:end])
	if kids > 1024 {
		return at, api.ErrLong
	}
	for range kids {
		if end, e = wantedValue(b, end, a); e != api.OK {
			return end, e
		}
	}
	return end, api.OK
}

// wanted is what the chapter asks of the call of that name. As each thing has one form alone, it is its bytes.
func wanted(name string, b []byte) told {
	var end int
	var e api.Errno
	switch name {
	case "ReadUint", "ReadInt":
		end, e = wantedNumber(b, 0)
	case "ReadText":
		end, e = wantedText(b, 0)
	case "ReadNum":
		end, e = wantedNum(b, 0)
	default:
		end, e = wantedValue(b, 0, &ahead{})
	}
	if name == "ReadAll" && e == api.OK && end < len(b) {
		e = api.ErrShape
	}
	if e != api.OK {
		return told{zeros[name], end, e}
	}
	return told{string(b[:end]), end, e}
}

// hold holds all that read against what is wanted of them.
func hold(t *testing.T, b []byte) {
	t.Helper()
	for name, do := range readers() {
		if got, w := do(b), wanted(name, b); got != w {
			t.Errorf("%s of %.60x (%d bytes): %.60x, %d, %d, not %.60x, %d, %d", name, b, len(b), got.thing, got.n, got.e, w.thing, w.n, w.e)
		}
	}
}

// line is what a call that reads is to answer to some bytes: beside an error a place, else how many bytes it takes.
type line struct {
	name, bytes string
	n           int
	e           api.Errno
}

func tryAll(t *testing.T, lines []line) {
	t.Helper()
	for _, x := range lines {
		got := readers()[x.name]([]byte(x.bytes))
		w := told{zeros[x.name], x.n, x.e}
		if x.e == api.OK { // each thing has one form alone: that which was read
			w.thing = x.bytes[:min(x.n, len(x.bytes))]
		}
		if got != w {
			t.Errorf("%s of %.60x (%d bytes): %.60x, %d, %d, not %.60x, %d, %d", x.name, x.bytes, len(x.bytes), got.thing, got.n, got.e, w.thing, w.n, w.e)
		}
		hold(t, []byte(x.bytes))
	}
}

var (
	nines   = strings.Repeat("\xff", 9)
	noughts = strings.Repeat("\x00", 2000)
)

func TestReadNumbers(t *testing.T) { // P5.2
	for _, name := range []string{"ReadUint", "ReadInt"} {
		tryAll(t, []line{
			{name, "\x00", 1, api.OK}, {name, "\x05\x06", 1, api.OK}, {name, "\x7f", 1, api.OK}, {name, "\x80\x01\x00", 2, api.OK}, {name, "\xac\x02", 2, api.OK}, {name, "\x00\x00", 1, api.OK},
			{name, nines + "\x01", 10, api.OK}, {name, nines + "\x01\xff", 10, api.OK}, {name, strings.Repeat("\x80", 9) + "\x01", 10, api.OK},
			{name, nines[:8] + "\x7f", 9, api.OK}, {name, nines[:8] + "\x01\x00", 9, api.OK},
			{name, "", 0, api.ErrShort}, {name, "\x80", 1, api.ErrShort}, {name, "\xff\x80", 2, api.ErrShort}, {name, nines[:8], 8, api.ErrShort}, {name, nines, 9, api.ErrShort},
			{name, "\x80\x00", 1, api.ErrShape}, {name, "\x80\x00\x01", 1, api.ErrShape}, {name, "\xff\x80\x80\x00", 3, api.ErrShape}, {name, nines[:8] + "\x00", 8, api.ErrShape},
			{name, nines + "\x00", 9, api.ErrShape}, {name, nines + "\x02", 9, api.ErrShape}, {name, nines + "\x03", 9, api.ErrShape}, {name, nines + "\x80", 9, api.ErrShape},
			{name, nines + "\x81\x01", 9, api.ErrShape}, {name, nines + nines, 9, api.ErrShape},
		})
	}
	for b, wanted := range map[string]uint64{"\x05\x06": 5, "\xac\x02": 300, "\x80\x01": 128, nines + "\x01": most, "\x80\x80\x80\x80\x80\x80\x80\x80\x80\x01": 1 << 63} {
		if n, _, e := code.ReadUint([]byte(b)); n != wanted || e != api.OK {
			t.Errorf("ReadUint of %x: %d, %d", b, n, e)
		}
	}
	for b, wanted := range map[string]int64{"\x00": 0, "\x01": -1, "\x02": 1, "\x03": -2, "\xab\x02": -150, nines + "\x01": least, "\xfe" + nines[:8] + "\x01": greatest, "\x80\x01": 64, "\x81\x01": -65} {
		if n, _, e := code.ReadInt([]byte(b)); n != wanted || e != api.OK {
			t.Errorf("ReadInt of %x: %d, %d", b, n, e)
		}
	}
}

func TestReadText(t *testing.T) { // P5.2
	const name = "ReadText"
	tryAll(t, []line{
		{name, "\x00", 1, api.OK}, {name, "\x00a", 1, api.OK}, {name, "\x02abc", 3, api.OK}, {name, "\x02\x00\xff", 3, api.OK}, {name, "\x80\x01" + long(128), 130, api.OK},
		{name, "\x80\x01" + long(129), 130, api.OK},
		{name, "\x88\x27" + long(5000), 5002, api.OK}, // a text that stands in no value may be longer
		{name, "", 0, api.ErrShort}, {name, "\x01", 1, api.ErrShort}, {name, "\x05a", 2, api.ErrShort}, {name, "\x80\x01" + long(127), 129, api.ErrShort},
		{name, "\x80", 1, api.ErrShort}, {name, "\x02a", 2, api.ErrShort},
		{name, nines + "\x01", 10, api.ErrShort}, {name, nines + "\x01abc", 13, api.ErrShort}, {name, nines[:8] + "\x7fa", 10, api.ErrShort}, {name, "\xf6" + nines[:8] + "\x01abc", 13, api.ErrShort},
		{name, "\x80\x00abc", 1, api.ErrShape}, {name, nines + "\x02abc", 9, api.ErrShape},
	})
	if s, _, e := code.ReadText([]byte("\x02abc")); s != "ab" || e != api.OK {
		t.Errorf("ReadText: %q, %d", s, e)
	}
}

func TestReadNum(t *testing.T) { // P5.2
	const name = "ReadNum"
	tryAll(t, []line{
		{name, noughts[:16], 16, api.OK}, {name, noughts[:17], 16, api.OK}, {name, "\x3f\xf0" + noughts[:6] + "\xc0" + noughts[:7] + "\xff", 16, api.OK},
		{name, "", 0, api.ErrShort}, {name, "\x80", 1, api.ErrShort}, {name, noughts[:7], 7, api.ErrShort}, {name, noughts[:8], 8, api.ErrShort}, {name, noughts[:15], 15, api.ErrShort},
		{name, "\x80" + noughts[:14], 15, api.ErrShort}, {name, "\x7f\xf0" + noughts[:13], 15, api.ErrShort}, // what isn't fine is found behind all 16 bytes
		{name, "\x80" + noughts[:15], 0, api.ErrRange}, {name, noughts[:8] + "\x80" + noughts[:7], 0, api.ErrRange}, {name, "\x7f\xf0" + noughts[:14], 0, api.ErrRange},
		{name, "\xff\xf0" + noughts[:14], 0, api.ErrRange},
		{name, noughts[:8] + "\x7f\xf0" + noughts[:6], 0, api.ErrRange}, {name, noughts[:8] + "\xff\xf8" + noughts[:60], 0, api.ErrRange},
		{name, "\x7f\xf0" + noughts[:5] + "\x01" + noughts[:8], 0, api.ErrRange}, {name, nines + nines, 0, api.ErrRange},
		{name, "\x7f\xef" + noughts[:14], 16, api.OK}, {name, noughts[:7] + "\x01\x80" + noughts[:6] + "\x01", 16, api.OK}, {name, "\x80" + noughts[:6] + "\x01" + noughts[:8], 16, api.OK},
	})
	if z, _, e := code.ReadNum([]byte("\x3f\xf0" + noughts[:6] + "\xc0" + noughts[:7])); z != 1-2i || e != api.OK {
		t.Errorf("ReadNum: %v, %d", z, e)
	}
}

func TestReadValue(t *testing.T) { // P5.3
	for _, name := range []string{"ReadValue", "ReadAll"} {
		tryAll(t, []line{
			{name, "\x00", 1, api.OK}, {name, "\x01\x00", 2, api.OK}, {name, "\x01\x01", 2, api.OK}, {name, "\x02\xab\x02", 3, api.OK}, {name, "\x03\x02ab", 4, api.OK},
			{name, "\x03\x00", 2, api.OK}, {name, "\x04" + noughts[:16], 17, api.OK}, {name, "\x05\x00", 2, api.OK},
			{name, "\x05\x02\x02\x02\x00", 5, api.OK}, {name, "\x05\x02\x05\x01\x05\x00\x03\x01x", 9, api.OK}, {name, "\x02" + nines + "\x01", 11, api.OK},
			{name, "", 0, api.ErrShort}, {name, "\x01", 1, api.ErrShort}, {name, "\x02", 1, api.ErrShort}, {name, "\x02\x80", 2, api.ErrShort}, {name, "\x03", 1, api.ErrShort},
			{name, "\x03\x80", 2, api.ErrShort}, {name, "\x03\x02a", 3, api.ErrShort}, {name, "\x04", 1, api.ErrShort}, {name, "\x04" + noughts[:15], 16, api.ErrShort},
			{name, "\x04\x80" + noughts[:14], 16, api.ErrShort},
			{name, "\x05", 1, api.ErrShort}, {name, "\x05\x80", 2, api.ErrShort}, {name, "\x05\x01", 2, api.ErrShort}, {name, "\x05\x02\x00", 3, api.ErrShort},
			{name, "\x05\x02\x05\x01\x00", 5, api.ErrShort}, {name, "\x05\x80\x08", 3, api.ErrShort},
			{name, "\x06", 0, api.ErrShape}, {name, "\xff", 0, api.ErrShape}, {name, "\x80\x00", 0, api.ErrShape}, {name, "\x05\x02\x00\x06", 3, api.ErrShape},
			{name, "\x05\x02\x06\x00", 2, api.ErrShape}, {name, "\x05\x01\x05\x01\x07\x00", 4, api.ErrShape},
			{name, "\x01\x02", 1, api.ErrShape}, {name, "\x01\x80", 1, api.ErrShape}, {name, "\x01\xff\x00", 1, api.ErrShape}, {name, "\x05\x02\x00\x01\x02", 4, api.ErrShape},
			{name, "\x05\x02\x01\x02\x06", 3, api.ErrShape},
			{name, "\x02\x80\x00", 2, api.ErrShape}, {name, "\x02" + nines + "\x02", 10, api.ErrShape}, {name, "\x03\x80\x00", 2, api.ErrShape},
			{name, "\x03\xff\xff\x00", 3, api.ErrShape}, {name, "\x05\x80\x00", 2, api.ErrShape}, {name, "\x05\x81\x80\x00", 3, api.ErrShape},
			{name, "\x03" + nines + "\x02", 10, api.ErrShape}, {name, "\x05" + nines + "\x00", 10, api.ErrShape},
			{name, "\x04\x80" + noughts[:15], 1, api.ErrRange}, {name, "\x04" + noughts[:8] + "\x7f\xf0" + noughts[:6], 1, api.ErrRange}, {name, "\x05\x01\x04" + nines + nines, 3, api.ErrRange},
		})
	}
	tryAll(t, []line{
		{"ReadValue", "\x00\x00", 1, api.OK}, {"ReadAll", "\x00\x00", 1, api.ErrShape}, {"ReadValue", "\x05\x00\x06", 2, api.OK}, {"ReadAll", "\x05\x00\x06", 2, api.ErrShape},
		{"ReadValue", "\x05\x01\x03\x01ab", 5, api.OK}, {"ReadAll", "\x05\x01\x03\x01ab", 5, api.ErrShape}, {"ReadValue", "\x01\x01" + long(9000), 2, api.OK},
		{"ReadAll", "\x01\x01" + long(9000), 2, api.ErrShape},
	})
	v, n, e := code.ReadValue([]byte("\x05\x04\x02\xab\x02\x03\x02ab\x01\x01\x05\x01\x00\x09"))
	if w := (api.Value{list(4), whole(-150), text("ab"), yes, list(1), none}); !same(v, w) || n != 14 || e != api.OK {
		t.Errorf("ReadValue: %v, %d, %d", v, n, e)
	}
}

// listOf are the bytes of a list of so many members, as far as its nodes' bytes are told.
func listOf(kids int, nodes ...string) string {
	return "\x05" + string(binary.AppendUvarint(nil, uint64(kids))) + strings.Join(nodes, "")
}

// textOf are the bytes of a text of n bytes, as a value.
func textOf(n int) string {
	return "\x03" + string(binary.AppendUvarint(nil, uint64(n))) + long(n)
}

func TestTooManyNodes(t *testing.T) { // P5.3
	deep := strings.Repeat("\x05\x01", 1023)
	wide := strings.Repeat("\x05\x80\x08", 1024)
	for _, name := range []string{"ReadValue", "ReadAll"} {
		tryAll(t, []line{
			{name, listOf(1023, noughts[:1023]), 1026, api.OK}, {name, listOf(1023, noughts[:1022]), 1025, api.ErrShort},
			{name, listOf(1024, noughts[:1023]), 1026, api.ErrShort}, // no node begins where the bytes end
			{name, listOf(1024, noughts[:1024]), 1026, api.ErrLong}, {name, listOf(1024, noughts[:1023], "\x09"), 1026, api.ErrLong},
			{name, listOf(1024, noughts[:1022], "\x09\x09"), 1025, api.ErrShape}, {name, listOf(1024, noughts), 1026, api.ErrLong},
			{name, listOf(2, listOf(511, noughts[:511]), listOf(510, noughts[:510])), 1029, api.OK},
			{name, listOf(2, listOf(511, noughts[:511]), listOf(511, noughts[:510])), 1029, api.ErrShort},
			{name, listOf(2, listOf(511, noughts[:511]), listOf(511, noughts[:511])), 1029, api.ErrLong},
			{name, deep + "\x00", 2047, api.OK}, {name, deep + "\x05\x01", 2048, api.ErrShort}, {name, deep + "\x05\x01\x00", 2048, api.ErrLong}, {name, deep + "\x05\x00", 2048, api.OK},
			{name, wide, 3072, api.ErrShort}, {name, wide + "\x00", 3072, api.ErrLong}, {name, wide + "\x06", 3072, api.ErrLong},
			{name, listOf(1024), 3, api.ErrShort}, {name, listOf(1025), 1, api.ErrLong}, {name, listOf(1025, noughts), 1, api.ErrLong},
			{name, listOf(1<<40, noughts), 1, api.ErrLong}, {name, "\x05" + nines + "\x01", 1, api.ErrLong}, {name, "\x05" + nines[:8] + "\x7f\x06", 1, api.ErrLong},
			{name, "\x05\x02\x00\x05\x81\x08\x06", 4, api.ErrLong}, {name, "\x05\x80\x80\x80\x80\x10", 1, api.ErrLong}, {name, "\x05\x81\x80\x80\x80\x10\x00", 1, api.ErrLong},
		})
	}
}

func TestTooLong(t *testing.T) { // P5.3
	for _, name := range []string{"ReadValue", "ReadAll"} {
		tryAll(t, []line{
			{name, textOf(4095), 4098, api.OK}, {name, textOf(4096), 1, api.ErrLong}, {name, "\x03\x80\x20", 1, api.ErrLong}, {name, "\x03\xff\x1f", 3, api.ErrShort}, {name, textOf(5000), 1, api.ErrLong},
			{name, "\x03" + nines + "\x01", 1, api.ErrLong}, {name, "\x03" + nines + "\x01abc", 1, api.ErrLong}, {name, "\x03" + nines[:8] + "\x7fab", 1, api.ErrLong},
			{name, "\x03\x80\x80\x80\x80\x10ab", 1, api.ErrLong}, {name, "\x03\x81\x80\x80\x80\x10ab", 1, api.ErrLong},
			{name, listOf(1, textOf(4094)), 4099, api.OK}, {name, listOf(1, textOf(4095)), 3, api.ErrLong}, {name, listOf(1, textOf(4095)[:3]), 3, api.ErrLong},
			{name, listOf(1, textOf(4095)[:2]), 4, api.ErrShort},
			{name, listOf(2, textOf(4093), "\x00"), 4099, api.OK}, {name, listOf(2, textOf(4094), "\x00"), 4099, api.ErrLong},
			{name, listOf(2, textOf(4094), "\x09"), 4099, api.ErrLong}, {name, listOf(2, textOf(4094)), 4099, api.ErrShort},
			{name, listOf(2, textOf(4093), "\x09"), 4098, api.ErrShape},
			{name, listOf(2, textOf(2000), textOf(2093)), 4101, api.OK}, {name, listOf(2, textOf(2000), textOf(2094)), 2006, api.ErrLong},
			{name, listOf(2, textOf(2094), textOf(2000)), 2100, api.ErrLong}, {name, listOf(3, textOf(2000), textOf(2093), textOf(0)), 4101, api.ErrLong},
			{name, listOf(1023, strings.Repeat(textOf(3), 1023)), 3 + 5*1023, api.OK}, {name, listOf(1023, strings.Repeat(textOf(4), 1023)), 3 + 6*819, api.ErrLong},
			{name, listOf(2, textOf(4092), textOf(0)), 4099, api.OK}, {name, listOf(2, textOf(4092), textOf(1)), 4100, api.OK},
			{name, listOf(2, textOf(4092), textOf(2)), 4098, api.ErrLong}, {name, listOf(2, textOf(4092), "\x02"+nines+"\x01"), 4108, api.OK},
			{name, listOf(2, textOf(4092), "\x05\x01\x00"), 4100, api.OK}, {name, listOf(2, textOf(4093), "\x05\x00"), 4100, api.OK},
			{name, listOf(2, textOf(4093), "\x05\x01\x00"), 4100, api.ErrLong}, {name, listOf(2, textOf(4093), "\x05\x01"), 4100, api.ErrShort},
			{name, listOf(2, textOf(4093), textOf(1)), 4099, api.ErrLong},
		})
	}
}

// allOf hands over all texts of at most n bytes out of a few, behind those that are told.
func allOf(few string, n int, ahead string, do func(b []byte)) {
	do([]byte(ahead))
	for i := range len(few) {
		if n > 0 {
			allOf(few, n-1, ahead+few[i:i+1], do)
		}
	}
}

func TestAllShortBytes(t *testing.T) { // P5.2, P5.3
	see := func(b []byte) { hold(t, b) }
	see(nil)
	allOf("\x00\x01\x02\x03\x05\x06\x80\x81", 5, "", see)
	allOf("\x00\x01\x02\x04\x7f\x80\xff", 4, "", see)
	for heads := range 12 {
		for _, head := range []string{"\x80", "\xff", "\x81"} {
			for _, kind := range []string{"", "\x02", "\x03", "\x05", "\x05\x01\x02"} {
				allOf("\x00\x01\x02\x7f\x80\xff", 2, kind+strings.Repeat(head, heads), see)
			}
		}
	}
	for c := range 256 {
		for _, ahead := range []string{"", "\x01", "\x80", "\x05\x01", "\x05\x02\x00", nines, nines[:8]} {
			hold(t, []byte(ahead+string([]byte{byte(c)})))
			hold(t, []byte(ahead+string([]byte{byte(c), 1})))
		}
	}
}
