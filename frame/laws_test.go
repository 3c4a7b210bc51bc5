package frame_test

import (
	"bytes"
	"slices"
	"testing"

	"prompter/api"
	"prompter/frame"
)

// frames is strewn frames, one behind the other, and their bodies.
func (d *draws) frames(n int) (all []byte, l [][]byte) {
	for range n {
		body := d.body(d.below(1 + d.below(60)))
		l = append(l, body)
		all = append(all, framed(body)...)
	}
	return all, l
}

func TestSplitOfFrames(t *testing.T) { // P6.6
	d := draws(3)
	for n := range 300 {
		var all []byte
		_, l := d.frames(n % 40)
		for _, body := range l {
			b, _ := frame.Frame(body)
			all = append(all, b...)
		}
		if got, n, e := frame.Split(all); !slices.EqualFunc(got, l, bytes.Equal) || n != len(all) || e != api.OK {
			t.Errorf("Split of %d frames: %d, %d of %d bytes, %d", len(l), len(got), n, len(all), e)
		}
	}
	l := bodies()
	var all []byte
	for _, body := range l {
		all = append(all, framed(body)...)
	}
	if got, n, e := frame.Split(all); !slices.EqualFunc(got, l, bytes.Equal) || n != len(all) || e != api.OK {
		t.Errorf("Split of %d frames: %d, %d of %d bytes, %d", len(l), len(got), n, len(all), e)
	}
}

// inPieces feeds a new reader these pieces, one behind the other, and fails unless it tells all in all what Split tells of all bytes, and breaks just where Split tells what is wrong.
func inPieces(t *testing.T, pieces ...[]byte) {
	t.Helper()
	r := frame.New()
	var fed []byte
	var told [][]byte
	for _, b := range pieces {
		_, _, before := frame.Split(fed)
		l, e := r.Feed(b)
		told = append(told, l...)
		if before == api.OK || before == api.ErrShort {
			fed = append(fed, b...)
		}
		all, n, after := frame.Split(fed)
		if after == api.ErrShort {
			after = api.OK
		}
		if e != after || r.Taken() != n || r.Left() != len(fed)-n || !slices.EqualFunc(told, all, bytes.Equal) {
			t.Errorf("of %x, the last being %x: %d bodies, %d, %d taken, not %d bodies, %d, %d taken", pieces, b, len(told), e, r.Taken(), len(all), after, n)
		}
	}
}

func TestAllCuts(t *testing.T) { // P6.6
	all := slices.Concat(framed([]byte("ab")), framed(nil), framed([]byte("c")))
	wrong := slices.Concat(framed([]byte("ab")), []byte("\x01\x00\x00\x00\x79\xb8\xf8\x99b\x43\xbe\xb7\xe8"), framed(nil))
	long := slices.Concat(framed(nil), headed(api.MaxFrame+1), framed([]byte("c")))
	for _, b := range [][]byte{all, wrong, long} {
		for i := range len(b) + 1 {
			for j := i; j <= len(b); j++ {
				inPieces(t, b[:i], b[i:j], b[j:])
			}
		}
		for size := 1; size <= len(b); size++ {
			inPieces(t, slices.Collect(slices.Chunk(b, size))...)
		}
	}
}

// TestStrewnPieces feeds frames in which perhaps something is wrong, cut anywhere.
func TestStrewnPieces(t *testing.T) { // P6.4, P6.6
	d := draws(4)
	for range 3000 {
		all, _ := d.frames(d.below(8))
		if len(all) > 0 && d.below(2) == 0 {
			all[d.below(len(all))] ^= 1 << d.below(8)
		}
		var pieces [][]byte
		x := fresh()
		for len(all) > 0 {
			n := min(len(all), d.below(1+d.below(80)))
			pieces = append(pieces, all[:n])
			x.feed(t, all[:n])
			all = all[n:]
		}
		inPieces(t, pieces...)
	}
}

// TestGreatestByteByByte feeds the greatest frame twice, and then what is wrong, byte by byte.
func TestGreatestByteByByte(t *testing.T) { // P6.4, P6.6
	d := draws(5)
	body := d.body(api.MaxFrame)
	b := framed(body)
	r := frame.New()
	for round := range 2 {
		for i := range b {
			l, e := r.Feed(b[i : i+1])
			whole := 0
			if i == len(b)-1 {
				whole = 1
			}
			if len(l) != whole || e != api.OK || r.Taken() != (round+whole)*len(b) || r.Left() != (i+1)*(1-whole) {
				t.Fatalf("byte %d: %d bodies, %d, %d taken, %d left", i, len(l), e, r.Taken(), r.Left())
			}
			if whole == 1 && !bytes.Equal(l[0], body) {
				t.Errorf("the body of round %d is not what was framed", round)
			}
		}
	}
	b[100] ^= 1
	for i := range b {
		want := api.OK
		if i == len(b)-1 {
			want = api.ErrSum
		}
		if l, e := r.Feed(b[i : i+1]); len(l) != 0 || e != want || r.Left() != i+1 {
			t.Fatalf("wrong, byte %d: %d bodies, %d, %d left", i, len(l), e, r.Left())
		}
	}
}

func TestOneBitTurned(t *testing.T) { // P6.6
	for _, body := range bodies() {
		b := framed(body)
		for i := 0; i < 8*len(b); i += 1 + len(b)/1000*37 {
			b[i/8] ^= 1 << (i % 8)
			if got, _, e := frame.Read(b); len(got) != 0 || e == api.OK {
				t.Errorf("a frame of %d bytes whose bit %d was turned was read: %.20x, %d", len(b), i, got, e)
			}
			b[i/8] ^= 1 << (i % 8)
		}
	}
}

// turn turns those bits of b that the pattern tells, from the bit at on; in each byte the bit of least worth is the first one, as the sum takes them.
func turn(b []byte, at int, pattern uint32) {
	for i := range 32 {
		if pattern>>i&1 == 1 {
			b[(at+i)/8] ^= 1 << ((at + i) % 8)
		}
	}
}

// isBroken fails unless ErrSum is told of the frame b once these bits are turned.
func isBroken(t *testing.T, b []byte, at int, pattern uint32) {
	t.Helper()
	turn(b, at, pattern)
	if got, n, e := frame.Read(b); len(got) != 0 || n != len(b)-4 || e != api.ErrSum {
		t.Errorf("a frame of %d bytes, turned by %x from the bit %d on: %.20x, %d, %d", len(b), pattern, at, got, n, e)
	}
	turn(b, at, pattern)
}

func TestBitsTurnedWithin32(t *testing.T) { // P6.6
	d := draws(6)
	for _, size := range []int{0, 1, 2, 3, 4, 5, 8, 17, 40} {
		b := framed(d.body(size))
		for at := 64; at+32 <= 8*len(b); at++ {
			for i := range 32 {
				for j := range i + 1 {
					isBroken(t, b, at, 1<<i|1<<j)
				}
			}
			for range 200 {
				isBroken(t, b, at, uint32(d.below(1<<31-1)+1))
			}
			for _, pattern := range []uint32{1<<32 - 1, 3988292384, 0x04c11db7, 0xdb710641, 0x80000000, 0xaaaaaaaa, 0xff, 0xffff0000} {
				isBroken(t, b, at, pattern)
			}
		}
	}
	b := framed(d.body(api.MaxFrame))
	for range 500 {
		isBroken(t, b, 64+d.below(8*(len(b)-8)-31), uint32(d.below(1<<31-1)+1))
	}
}

// roomy is b with spare room behind it, in which there is something.
func roomy(b []byte) []byte {
	return append(bytes.Clone(b), spare...)[:len(b)]
}

const spare = "spare room that is nobody's"

// isUnchanged fails unless b, made by roomy, is as it was, its spare room too.
func isUnchanged(t *testing.T, name string, b, had []byte) {
	t.Helper()
	if all := b[:len(b)+len(spare)]; !bytes.Equal(all, slices.Concat(had, []byte(spare))) {
		t.Errorf("%s changed %x to %x", name, had, all)
	}
}

// spoil writes into all that b has, its spare room too.
func spoil(b []byte) {
	b = b[:cap(b)]
	for i := range b {
		b[i] = 0xee
	}
}

// isApart fails unless what was told stays as it is while one after the other is spoilt; want is what was told.
func isApart(t *testing.T, name string, told, want [][]byte) {
	t.Helper()
	for i, body := range told {
		if !bytes.Equal(body, want[i]) {
			t.Errorf("%s: %x, not %x", name, body, want[i])
		}
		spoil(body)
	}
}

func TestHandedInIsOnlyRead(t *testing.T) { // P6.5
	three := slices.Concat(framed([]byte("ab")), framed(nil), framed([]byte("xyz")))
	for _, had := range [][]byte{nil, []byte("ab"), three, three[:20], three[:len(three)-1], []byte("no sum at all"), headed(1 << 20)} {
		b := roomy(had)
		frame.Sum(b)
		isUnchanged(t, "Sum", b, had)
		frame.Frame(b)
		isUnchanged(t, "Frame", b, had)
		frame.Read(b)
		isUnchanged(t, "Read", b, had)
		frame.Split(b)
		isUnchanged(t, "Split", b, had)
		r := frame.New()
		r.Feed(b)
		r.Feed([]byte("more"))
		isUnchanged(t, "Feed", b, had)
	}
}

func TestAnswersShareNothing(t *testing.T) { // P6.5
	body := roomy([]byte("ab"))
	b, _ := frame.Frame(body)
	again, _ := frame.Frame(body)
	spoil(b)
	spoil(body)
	isApart(t, "Frame", [][]byte{again}, [][]byte{framed([]byte("ab"))})

	want := [][]byte{[]byte("ab"), nil, []byte("xyz"), []byte("ab")}
	all := roomy(slices.Concat(framed(want[0]), framed(want[1]), framed(want[2]), framed(want[3])))
	first, _, _ := frame.Read(all)
	second, _, _ := frame.Read(all)
	l, _, _ := frame.Split(all)
	m, _, _ := frame.Split(all)
	spoil(all)
	isApart(t, "Read", [][]byte{first, second}, [][]byte{want[0], want[0]})
	isApart(t, "Split", slices.Concat(l, m), slices.Concat(want, want))
}

func TestReaderSharesNothing(t *testing.T) { // P6.5
	want := [][]byte{[]byte("ab"), nil, []byte("xyz"), []byte("and more")}
	all := slices.Concat(framed(want[0]), framed(want[1]), framed(want[2]), framed(want[3]))
	for size := 1; size <= len(all); size++ {
		r := frame.New()
		var told [][]byte
		for piece := range slices.Chunk(all, size) {
			b := roomy(piece)
			l, e := r.Feed(b)
			if e != api.OK {
				t.Errorf("Feed in pieces of %d: %d", size, e)
			}
			spoil(b)
			isApart(t, "Feed", l, want[len(told):])
			told = append(told, l...)
		}
		if len(told) != len(want) {
			t.Errorf("in pieces of %d: %d bodies", size, len(told))
		}
	}
}
