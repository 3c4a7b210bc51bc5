package instr_test

import (
	"bytes"
	"slices"
	"strings"
	"testing"

	"prompter/api"
	"prompter/instr"
)

// ends is a code of n instructions, the last one that.
func ends(n int, last api.Instr) []api.Instr {
	return append(slices.Repeat(code("end"), n-1), last)
}

// isWhole fails, unless code is written and read, as bytes and as a list.
func isWhole(t *testing.T, l []api.Instr) {
	t.Helper()
	b, e := instr.Bytes(l)
	if !bytes.Equal(b, plainBytes(l)) || e != api.OK {
		t.Fatalf("Bytes of %s: %.100x, %d", short(l), b, e)
	}
	isRead(t, b, readCode{l, len(b), api.OK})
	s, e := instr.List(l)
	if s != plainList(l) || e != api.OK {
		t.Fatalf("List of %s: %.100q, %d", short(l), s, e)
	}
	isUnlisted(t, s, readCode{l, 0, api.OK})
}

func TestMostInstructions(t *testing.T) { // P14.1, P14.2, P14.4 to P14.7
	for _, last := range []api.Instr{{Op: api.IEnd}, {Op: api.IJump, A: 8191}, {Op: api.IInt, Int: -1}} {
		l := ends(8192, last)
		isPlain(t, l, 100)
		isWhole(t, l)
	}
	for _, n := range []int{8193, 8194, 16384, 100000} {
		isChecked(t, ends(n, api.Instr{Op: api.IEnd}), 0, checked{e: api.ErrLong})
		isChecked(t, make([]api.Instr, n), 100, checked{e: api.ErrLong})
		isChecked(t, make([]api.Instr, n), -1, checked{e: api.ErrArg})
		isRead(t, plainBytes(ends(n, api.Instr{Op: api.IEnd})), readCode{nil, 0, api.ErrLong})
		isUnlisted(t, plainList(ends(n, api.Instr{Op: api.IEnd})), readCode{nil, 8192, api.ErrLong})
		isUnlisted(t, plainList(ends(n, api.Instr{})), readCode{nil, 8192, api.ErrLong})
	}
	isChecked(t, ends(8192, api.Instr{Op: api.IJump, A: 8192}), 0, checked{at: 8191, e: api.ErrShape})
	isRead(t, plainBytes(ends(8192, api.Instr{Op: api.IJump, A: 8192})), readCode{nil, 2 + 8191, api.ErrShape})
	isRead(t, append(plainBytes(ends(8192, api.Instr{Op: api.IEnd})), api.IEnd), readCode{nil, 2 + 8192, api.ErrShape})
}

func TestMostLines(t *testing.T) { // P14.7
	full := plainList(ends(8192, api.Instr{Op: api.IEnd}))
	far := plainList(ends(8192, api.Instr{Op: api.IJump, A: 8192}))
	wrong := plainList(ends(8192, api.Instr{Op: api.IList, A: 2049}))
	isUnlisted(t, far, readCode{nil, 8191, api.ErrText})
	isUnlisted(t, wrong, readCode{nil, 8191, api.ErrText})
	isUnlisted(t, full[:len(full)-1], readCode{nil, 8191, api.ErrText})
	for _, behind := range []string{"\n", " ", "x", "8192 end\n", "8192 end", "\x00"} {
		isUnlisted(t, full+behind, readCode{nil, 8192, api.ErrLong})
		isUnlisted(t, far+behind, readCode{nil, 8192, api.ErrLong}) // what target is there is asked last
		isUnlisted(t, wrong+behind, readCode{nil, 8191, api.ErrText})
		isUnlisted(t, "x"+full+behind, readCode{nil, 0, api.ErrText})
		isUnlisted(t, full[:len(full)-1]+behind, plainUnlist(full[:len(full)-1]+behind))
	}
}

// TestLongestLists holds texts of about 1048576 bytes: the list of a code may be longer, nothing else may.
func TestLongestLists(t *testing.T) { // P14.7, P14.9
	const most = 1048576
	long := api.Instr{Op: api.IText, Text: strings.Repeat("a", 4095)}
	many := slices.Repeat([]api.Instr{long}, 255)
	room := most - len(plainList(many)) - len("255 text \"\"\n")
	for n := room - 2; n <= room+2; n++ {
		l := append(slices.Clone(many), api.Instr{Op: api.IText, Text: strings.Repeat("b", n)})
		s := plainList(l)
		if len(s) != most+n-room {
			t.Fatalf("%d bytes", len(s))
		}
		isWhole(t, l)
		want, other := readCode{nil, 255, api.ErrText}, readCode{nil, 0, api.ErrText}
		if n > room {
			want = readCode{nil, 0, api.ErrLong}
			other = want
		}
		isUnlisted(t, s[:len(s)-1]+" ", want)
		isUnlisted(t, "1"+s[1:], other)
		isUnlisted(t, strings.Replace(s, "255 text", "255 tex_", 1), want)
	}
	huge := slices.Repeat([]api.Instr{{Op: api.IText, Text: strings.Repeat("\xff", 4095)}}, 8192)
	s, e := instr.List(huge)
	if e != api.OK || len(s) < 100*most {
		t.Fatalf("List of the greatest texts: %d bytes, %d", len(s), e)
	}
	isUnlisted(t, s, readCode{huge, 0, api.OK})
	isUnlisted(t, s+"\n", readCode{nil, 0, api.ErrLong})
	for _, c := range []string{"x", "0", " ", "\n", "\x00", "\"", "0 end\n"} {
		isUnlisted(t, strings.Repeat(c, most/len(c)), readCode{nil, plainUnlist(strings.Repeat(c, most/len(c))).n, api.ErrText})
		isUnlisted(t, strings.Repeat(c, most/len(c)+1), readCode{nil, 0, api.ErrLong})
		isUnlisted(t, strings.Repeat(c, 5*most), readCode{nil, 0, api.ErrLong})
	}
	few := "0 end\n1 jump 9\n"
	isUnlisted(t, few+"2 text \""+strings.Repeat("a", most-len(few)-len("2 text \"\"\n"))+"\"\n", readCode{nil, 2, api.ErrText})
	isUnlisted(t, few+"2 text \""+strings.Repeat("a", most-len(few)-len("2 text \"\"\n")+1)+"\"\n", readCode{nil, 0, api.ErrLong})
}

func TestEdges(t *testing.T) { // P14.1, P14.4 to P14.7
	for _, in := range []api.Instr{
		{Op: api.ILoad, A: 99}, {Op: api.IStore, A: 99}, {Op: api.IList, A: 2048}, {Op: api.ICall, A: 2048, Text: strings.Repeat("z", 24)}, {Op: api.IChild, A: 2048, Text: "z"}, {Op: api.ITake, Text: strings.Repeat("z", 24)},
		{Op: api.IText, Text: strings.Repeat("\x00", 4095)}, {Op: api.IText, Text: strings.Repeat("\"", 4095)}, {Op: api.IText, Text: strings.Repeat("\n", 4095)}, {Op: api.IText, Text: strings.Repeat("é", 2047)}, {Op: api.IJump, A: 2}, {Op: api.IFork, A: 2},
	} {
		isWhole(t, ends(3, in))
		isPlain(t, ends(3, in), 5)
	}
	for _, in := range []api.Instr{
		{Op: api.ILoad, A: 100}, {Op: api.IStore, A: 100}, {Op: api.IList, A: 2049}, {Op: api.ICall, A: 2049, Text: "z"}, {Op: api.IChild, A: 2049, Text: "z"}, {Op: api.ICall, Text: strings.Repeat("z", 25)}, {Op: api.ITake, Text: strings.Repeat("z", 25)},
		{Op: api.IText, Text: strings.Repeat("a", 4096)}, {Op: api.IText, Text: strings.Repeat("é", 2048)}, {Op: api.IJump, A: 3}, {Op: api.IFork, A: 3}, {Op: api.IBranch, A: 3}, {Op: api.IOr, A: 3}, {Op: api.IAnd, A: 3},
	} {
		l := ends(3, in)
		isRight(t, in, 3)
		isChecked(t, l, 5, checked{at: 2, e: api.ErrShape})
		isRead(t, plainBytes(l), readCode{nil, 3, api.ErrShape})
		isUnlisted(t, plainList(l), readCode{nil, 2, api.ErrText})
	}
	for _, params := range []int{-1 << 63, -100, -1, 101, 102, 1 << 32, 1<<63 - 1} {
		isChecked(t, code("end"), params, checked{e: api.ErrArg})
		isChecked(t, code("jump 0"), params, checked{e: api.ErrArg})
	}
	for params := range 101 {
		isPlain(t, code("end"), params)
		isPlain(t, code("load 40; return; store 50"), params)
		isPlain(t, code("jump 0"), params)
	}
}

// TestDeepest holds the deepest stacks, and the longest ways.
func TestDeepest(t *testing.T) { // P14.1, P14.2
	none, drop, end := code("none"), code("drop"), code("end")
	isChecked(t, slices.Repeat(none, 8192), 0, checked{at: 8191, e: api.ErrStack})
	deep := slices.Concat(slices.Repeat(none, 4095), slices.Repeat(drop, 4095), end)
	if got := check(t, deep, 0); got.stack != 4095 || got.e != api.OK {
		t.Errorf("the deepest stack: %s", short(got))
	}
	rows := slices.Concat(slices.Repeat(none, 6143), code("list 2048; list 2048; list 2048; drop; end"))
	got := check(t, rows, 0)
	if got.at != 6147 || got.e != api.ErrStack { // 6143 less 3 times 2047 and 1
		t.Errorf("long lists: %s", short(got))
	}
	rows[6146].Op = api.IReturn
	if got := check(t, rows, 0); got.at != 6146 || got.e != api.ErrStack {
		t.Errorf("long lists: %s", short(got))
	}
	fitting := slices.Concat(slices.Repeat(none, 6142), code("list 2048; list 2048; list 2048; drop; end"))
	if got := check(t, fitting, 0); got.stack != 6142 || got.e != api.OK || got.depths[6145] != 1 {
		t.Errorf("long lists: %s", short(got))
	}
	// From the end to the front, jump by jump, to an end, or in a circle.
	chain := ends(8192, api.Instr{Op: api.IJump, A: 8190})
	for i := 2; i < 8192; i++ {
		chain[i] = api.Instr{Op: api.IJump, A: i - 1}
	}
	chain[0] = api.Instr{Op: api.IJump, A: 8191}
	if got := check(t, chain, 0); got.e != api.OK || got.stack != 0 || got.depths[5] != 0 {
		t.Errorf("a long chain: %s", short(got))
	}
	chain[1] = api.Instr{Op: api.IJump, A: 8191}
	isChecked(t, chain, 0, checked{e: api.ErrStack})
	chain[0] = api.Instr{Op: api.IFork, A: 8190}
	chain[1], chain[2], chain[3] = code("drop")[0], code("end")[0], api.Instr{Op: api.IJump, A: 8190}
	isChecked(t, chain, 0, checked{at: 3, e: api.ErrStack})
	// Bools all along.
	bools := slices.Concat(code("true"), slices.Repeat(code("bool"), 8189), code("drop; end"))
	if got := check(t, bools, 0); got.e != api.OK || got.stack != 1 {
		t.Errorf("many bools: %s", short(got))
	}
	bools[8190] = api.Instr{Op: api.IJump, A: 8100}
	isChecked(t, bools, 0, checked{at: 1, e: api.ErrStack})
	forks := slices.Concat(slices.Repeat(code("fork 8191"), 4000), slices.Repeat(drop, 4191), end)
	isChecked(t, forks, 0, checked{at: 8000, e: api.ErrStack})
}
