package frame_test

import (
	"bytes"
	"encoding/binary"
	"hash/crc32"
	"slices"
	"strings"
	"testing"

	"prompter/api"
	"prompter/frame"
)

// sum is the sum as the document tells it, bit by bit.
func sum(b []byte) uint32 {
	x := uint32(4294967295)
	for _, c := range b {
		x ^= uint32(c)
		for range 8 {
			if x%2 == 1 {
				x = (x / 2) ^ 3988292384
			} else {
				x = x / 2
			}
		}
	}
	return x ^ 4294967295
}

// four is the four bytes of a number.
func four(x uint32) []byte {
	b := make([]byte, 4)
	binary.LittleEndian.PutUint32(b, x)
	return b
}

// headed is the first eight bytes of a frame of so long a body.
func headed(size uint32) []byte {
	return slices.Concat(four(size), four(sum(four(size))))
}

// framed is a body's frame, however long the body is.
func framed(body []byte) []byte {
	return slices.Concat(headed(uint32(len(body))), body, four(sum(body)))
}

// draws are numbers that a short rule strews.
type draws uint64

func (d *draws) below(n int) int {
	*d = 6364136223846793005**d + 1442695040888963407
	return int(*d>>33) % n
}

// body is n strewn bytes.
func (d *draws) body(n int) []byte {
	b := make([]byte, n)
	for i := range b {
		b[i] = byte(d.below(256))
	}
	return b
}

// bodies are bodies of many lengths, all that are short and those about the greatest.
func bodies() [][]byte {
	d := draws(1)
	l := [][]byte{nil, []byte("a"), make([]byte, 40), bytes.Repeat([]byte{255}, 40), framed([]byte("a frame in a frame"))}
	for n := range 70 {
		l = append(l, d.body(n))
	}
	for _, n := range []int{127, 128, 255, 256, 257, 4095, 4096, 65279, 65280, 65281, api.MaxFrame - 1, api.MaxFrame} {
		l = append(l, d.body(n))
	}
	return l
}

func TestSum(t *testing.T) { // P6.1
	for s, want := range map[string]uint32{
		"":          0,
		"123456789": 0xcbf43926,
		"a":         0xe8b7be43,
		"\x00":      0xd202ef8d,
		"\xff":      0xff000000,
		"The quick brown fox jumps over the lazy dog": 0x414fa339,
		strings.Repeat("\x00", 32):                    0x190a55ad,
		strings.Repeat("\xff", 32):                    0xff6cab0b,
		strings.Repeat("\xff", 4):                     0xffffffff,
	} {
		if got := frame.Sum([]byte(s)); got != want {
			t.Errorf("Sum of %q: %08x, not %08x", s, got, want)
		}
	}
	if got := frame.Sum(nil); got != 0 {
		t.Errorf("Sum of nothing: %x", got)
	}
}

func TestSumOfAll(t *testing.T) { // P6.1
	for x := range 1 << 16 {
		one, two := []byte{byte(x)}, []byte{byte(x), byte(x >> 8)}
		if frame.Sum(one) != sum(one) || frame.Sum(two) != sum(two) {
			t.Fatalf("Sum of %x, %x: %x, %x, not %x, %x", one, two, frame.Sum(one), frame.Sum(two), sum(one), sum(two))
		}
	}
	for _, b := range bodies() {
		if got := frame.Sum(b); got != sum(b) || got != crc32.ChecksumIEEE(b) {
			t.Errorf("Sum of %.20x (%d bytes): %x, not %x", b, len(b), got, sum(b))
		}
	}
	d := draws(2)
	b := d.body(1<<20 + 3)
	if got := frame.Sum(b); got != crc32.ChecksumIEEE(b) {
		t.Errorf("Sum of %d bytes: %x, not %x", len(b), got, crc32.ChecksumIEEE(b))
	}
}

func TestFrame(t *testing.T) { // P6.1
	for body, want := range map[string]string{
		"":  "\x00\x00\x00\x00\x1c\xdf\x44\x21\x00\x00\x00\x00",
		"a": "\x01\x00\x00\x00\x79\xb8\xf8\x99a\x43\xbe\xb7\xe8",
	} {
		if b, e := frame.Frame([]byte(body)); string(b) != want || e != api.OK {
			t.Errorf("Frame of %q: %x, %d", body, b, e)
		}
	}
	for _, body := range bodies() {
		b, e := frame.Frame(body)
		if !bytes.Equal(b, framed(body)) || len(b) != len(body)+12 || e != api.OK {
			t.Errorf("Frame of %.20x (%d bytes): %.40x (%d bytes), %d", body, len(body), b, len(b), e)
		}
	}
	for _, n := range []int{api.MaxFrame + 1, api.MaxFrame + 2, 2 * api.MaxFrame, 1 << 24} {
		if b, e := frame.Frame(make([]byte, n)); len(b) != 0 || e != api.ErrLong {
			t.Errorf("Frame of %d bytes: %d bytes, %d", n, len(b), e)
		}
	}
}

// isRead fails unless Read tells that of b.
func isRead(t *testing.T, b, body []byte, n int, e api.Errno) {
	t.Helper()
	if gotBody, gotN, gotE := frame.Read(b); !bytes.Equal(gotBody, body) || gotN != n || gotE != e {
		t.Errorf("Read of %.40x (%d bytes): %.20x (%d bytes), %d, %d, not %.20x (%d bytes), %d, %d", b, len(b), gotBody, len(gotBody), gotN, gotE, body, len(body), n, e)
	}
}

func TestRead(t *testing.T) { // P6.2
	for _, body := range bodies() {
		b := framed(body)
		for _, behind := range []string{"", "abc", "\x00", strings.Repeat("\x00", 12), strings.Repeat("\xff", 20), string(b)} {
			isRead(t, append(b[:len(b):len(b)], behind...), body, len(b), api.OK)
		}
	}
}

func TestReadOfWhatIsShort(t *testing.T) { // P6.2
	isRead(t, nil, nil, 0, api.ErrShort)
	isRead(t, []byte("what is"), nil, 7, api.ErrShort)
	isRead(t, framed([]byte("abc"))[:7], nil, 7, api.ErrShort)
	for _, body := range bodies() {
		b := framed(body)
		for n := 0; n < len(b); n += 1 + len(b)/500 {
			isRead(t, b[:n:n], nil, n, api.ErrShort)
		}
		for n := len(b) - 4; n < len(b); n++ {
			isRead(t, b[:n:n], nil, n, api.ErrShort)
		}
	}
	for n := range 8 {
		isRead(t, headed(api.MaxFrame + 1)[:n], nil, n, api.ErrShort)
		isRead(t, make([]byte, n), nil, n, api.ErrShort)
	}
	wrongBody := framed([]byte("abcdef"))
	wrongBody[9] ^= 1
	isRead(t, wrongBody[:17], nil, 17, api.ErrShort)
	isRead(t, wrongBody, nil, 14, api.ErrSum)
}

func TestReadOfWrongSums(t *testing.T) { // P6.2
	isRead(t, make([]byte, 12), nil, 4, api.ErrSum)
	isRead(t, make([]byte, 8), nil, 4, api.ErrSum)
	isRead(t, []byte("\x00\x00\x00\x00\x21\x44\xdf\x1c\x00\x00\x00\x00"), nil, 4, api.ErrSum)
	for _, body := range bodies() {
		b := framed(body)
		for i := 0; i < len(b); i += 1 + len(b)/300 {
			x := bytes.Clone(b)
			x[i] ^= 0x10
			if i < 8 {
				isRead(t, x, nil, 4, api.ErrSum)
				isRead(t, x[:8], nil, 4, api.ErrSum)
				isRead(t, x[:7], nil, 7, api.ErrShort)
				continue
			}
			isRead(t, x, nil, 8+len(body), api.ErrSum)
			isRead(t, append(x, 1, 2), nil, 8+len(body), api.ErrSum)
			isRead(t, x[:len(b)-1], nil, len(b)-1, api.ErrShort)
		}
	}
}

func TestReadOfGreatLengths(t *testing.T) { // P6.2
	for _, size := range []uint32{api.MaxFrame + 1, api.MaxFrame + 2, 1 << 17, 1 << 24, 1<<31 - 1, 1 << 31, 1<<31 + 5, 1<<32 - 12, 1<<32 - 1} {
		isRead(t, headed(size), nil, 0, api.ErrLong)
		isRead(t, append(headed(size), make([]byte, 100)...), nil, 0, api.ErrLong)
		wrong := headed(size)
		wrong[7] ^= 1
		isRead(t, wrong, nil, 4, api.ErrSum)
	}
	isRead(t, framed(make([]byte, api.MaxFrame+1)), nil, 0, api.ErrLong)
	isRead(t, headed(api.MaxFrame), nil, 8, api.ErrShort)
	isRead(t, framed(make([]byte, api.MaxFrame)), make([]byte, api.MaxFrame), api.MaxFrame+12, api.OK)
}

// read is Read as the document tells it: each fault with how many bytes must be there for it to be told.
func read(b []byte) ([]byte, int, api.Errno) {
	if len(b) >= 8 {
		size := binary.LittleEndian.Uint32(b)
		if !bytes.HasPrefix(b, headed(size)) {
			return nil, 4, api.ErrSum
		}
		if size > 65536 {
			return nil, 0, api.ErrLong
		}
		if all := int(size) + 12; len(b) >= all {
			body := b[8 : all-4]
			if !bytes.Equal(b[:all], framed(body)) {
				return nil, all - 4, api.ErrSum
			}
			return body, all, api.OK
		}
	}
	return nil, len(b), api.ErrShort
}

// split is Split as the document tells it.
func split(b []byte) (l [][]byte, at int, e api.Errno) {
	for at < len(b) {
		body, n, e := read(b[at:])
		if e != api.OK {
			return l, at, e
		}
		l, at = append(l, body), at+n
	}
	return l, at, api.OK
}

// isSplit fails unless Split tells of b what the document says.
func isSplit(t *testing.T, b []byte) {
	t.Helper()
	l, n, e := split(b)
	if gotL, gotN, gotE := frame.Split(b); !slices.EqualFunc(gotL, l, bytes.Equal) || gotN != n || gotE != e {
		t.Errorf("Split of %.60x (%d bytes): %.60x, %d, %d, not %.60x, %d, %d", b, len(b), gotL, gotN, gotE, l, n, e)
	}
}

func TestSplit(t *testing.T) { // P6.3
	three := slices.Concat(framed([]byte("a")), framed(nil), framed([]byte("some more")))
	for n := range len(three) + 1 {
		isSplit(t, three[:n:n])
	}
	if l, n, e := frame.Split(three); len(l) != 3 || string(l[0]) != "a" || len(l[1]) != 0 || string(l[2]) != "some more" || n != 46 || e != api.OK {
		t.Errorf("Split of three: %q, %d, %d", l, n, e)
	}
	if l, n, e := frame.Split(nil); len(l) != 0 || n != 0 || e != api.OK {
		t.Errorf("Split of nothing: %q, %d, %d", l, n, e)
	}
	for _, c := range []struct {
		behind string
		e      api.Errno
	}{
		{"a", api.ErrShort}, {"wrong sum", api.ErrSum}, {strings.Repeat("\x00", 12), api.ErrSum},
		{string(headed(api.MaxFrame + 1)), api.ErrLong}, {string(framed([]byte("x"))[:12]) + "!", api.ErrSum},
		{string(headed(5)), api.ErrShort}, {string(headed(api.MaxFrame)) + "and so on", api.ErrShort},
	} {
		b := slices.Concat(three, []byte(c.behind))
		if l, n, e := frame.Split(b); len(l) != 3 || n != 46 || e != c.e {
			t.Errorf("Split of three and %q: %q, %d, %d", c.behind, l, n, e)
		}
		if l, n, e := frame.Split([]byte(c.behind)); len(l) != 0 || n != 0 || e != c.e {
			t.Errorf("Split of %q: %q, %d, %d", c.behind, l, n, e)
		}
		isSplit(t, slices.Concat(b, three))
	}
}

func TestSplitOfOneByteTurned(t *testing.T) { // P6.3
	b := slices.Concat(framed([]byte("one")), framed([]byte("two")), framed(nil), framed([]byte("three")))
	for i := range b {
		for _, by := range []byte{1, 2, 64, 128, 255} {
			x := bytes.Clone(b)
			x[i] ^= by
			isSplit(t, x)
		}
	}
}
