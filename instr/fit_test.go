package instr_test

import (
	"fmt"
	"slices"
	"strings"
	"testing"

	"prompter/api"
)

// of are instructions by their words; each # in a word stands for every target of n places.
func of(n int, words string) []api.Instr {
	var l []api.Instr
	for w := range strings.SplitSeq(words, ", ") {
		if !strings.Contains(w, "#") {
			l = append(l, code(w)...)
			continue
		}
		for target := range n {
			l = append(l, code(strings.Replace(w, "#", fmt.Sprint(target), 1))...)
		}
	}
	return l
}

// allCodes hands over all codes of n instructions out of a few; always in the same memory.
func allCodes(few []api.Instr, n int, do func(l []api.Instr)) {
	l := make([]api.Instr, n)
	var fill func(at int)
	fill = func(at int) {
		if at == n {
			do(l)
			return
		}
		for _, in := range few {
			l[at] = in
			fill(at + 1)
		}
	}
	fill(0)
}

// allShort hands over all short codes of some instructions.
func allShort(do func(l []api.Instr)) {
	for n := range 4 {
		allCodes(of(n, "jump #, branch #, or #, and #, fork #, bool, drop, return, fail, end, none, not, add, list 2, call 0 a, load 1, store 2"), n, do)
	}
	allCodes(of(4, "jump #, branch #, or #, fork #, bool, drop, end, none, return"), 4, do)
	allCodes(of(5, "jump #, branch #, bool, end, none"), 5, do)
	allCodes(of(6, "jump 1, jump 3, jump 5, branch 1, bool, end, none"), 6, do)
	allCodes(of(7, "fork 4, or 2, and 5, drop, end, none"), 7, do)
}

func TestAllShort(t *testing.T) { // P14.1, P14.2
	fit := 0
	allShort(func(l []api.Instr) {
		isPlain(t, l, 2)
		if check(t, l, 2).e == api.OK {
			fit++
		}
	})
	if fit < 10000 {
		t.Errorf("only %d codes fit", fit)
	}
}

// TestMoves holds what each instruction takes and leaves: with the stack as deep as it may be, one less, one more.
func TestMoves(t *testing.T) { // P14.1, P14.2
	for op, r := range rows {
		for a := range 5 {
			in := api.Instr{Op: op, A: a}
			if r.text == "name" {
				in.Text = "pay"
			}
			if r.a == "-" {
				in.A = 0
			}
			for deep := range 6 {
				for rest := range 6 {
					l := slices.Concat(slices.Repeat(code("none"), deep), []api.Instr{in}, slices.Repeat(code("drop"), rest), code("end"))
					isPlain(t, l, 0)
				}
			}
		}
	}
}

// draws are numbers that a short rule strews.
type draws uint64

func (d *draws) below(n int) int {
	*d = 6364136223846793005**d + 1442695040888963407
	return int(*d>>33) % n
}

// instr is an instruction of a code of n places, which is right.
func (d *draws) instr(n int) api.Instr {
	ops := []byte{api.IJump, api.IBranch, api.IOr, api.IAnd, api.IFork, api.IBool, api.IReturn, api.IFail, api.IEnd, api.INone, api.ITrue, api.IInt, api.IText, api.IList, api.ICall, api.IChild, api.ILoad, api.IStore, api.ITake, api.IDrop, api.OAdd, api.OAt, api.ONot, api.OConj, api.IVersion, api.ITimer, api.ISleep, api.IAwait, api.ISettle}
	return d.filled(ops[d.below(len(ops))], n)
}

// filled is an instruction of that Op.
func (d *draws) filled(op byte, n int) api.Instr {
	in, r := api.Instr{Op: op}, rows[op]
	switch r.a {
	case "target":
		in.A = d.below(n)
	case "slot":
		in.A = d.below(100)
	case "count":
		in.A = []int{0, 0, 1, 2, 3, 128, 2048}[d.below(7)]
	}
	if r.number != "-" {
		in.Int = []int64{0, 1, -1, 63, -64, 64, 8191, -1 << 63, 1<<63 - 1, int64(d.below(1 << 30))}[d.below(10)]
	}
	switch r.text {
	case "name":
		in.Text = "abcdefghij_lmnop_rstuvwx"[:1+d.below(24)]
	case "text":
		in.Text = "a\"b\\c\x00\n\t\x1f \x7e\x7f\x80\xff\xc3\xa9\\x41z"[d.below(10):][:d.below(11)]
	}
	return in
}

// code is a code of right instructions.
func (d *draws) code(n int) []api.Instr {
	var l []api.Instr
	for range n {
		l = append(l, d.instr(n))
	}
	return l
}

// builder puts code together as a flow's is.
type builder struct {
	*draws
	code []api.Instr
}

// flow is a code that fits, but for circles, as a flow's is put together: of statements, values, and strands.
func (d *draws) flow(size int) []api.Instr {
	b := builder{draws: d}
	for len(b.code) < size {
		b.statement(4)
	}
	b.put(api.IEnd, 0)
	return b.code
}

// put puts an instruction behind all others, whose A is a, unless that is a slot; its place.
func (b *builder) put(op byte, a int) int {
	in := b.filled(op, 1)
	if rows[op].a != "slot" {
		in.A = a
	}
	b.code = append(b.code, in)
	return len(b.code) - 1
}

// any puts one of some instructions.
func (b *builder) any(a int, ops ...byte) int {
	return b.put(ops[b.below(len(ops))], a)
}

// here makes what comes next the target of the instruction at that place.
func (b *builder) here(hole int) { b.code[hole].A = len(b.code) }

// value puts what leaves one thing on the stack.
func (b *builder) value(depth int) {
	switch k := b.below(9); {
	case depth == 0 || k < 3:
		b.any(0, api.INone, api.ITrue, api.IFalse, api.IInt, api.IText, api.ILoad, api.ITake, api.IVersion)
	case k == 3:
		b.value(depth - 1)
		hole := b.any(0, api.IOr, api.IAnd)
		b.value(depth - 1)
		b.put(api.IBool, 0)
		b.here(hole)
	case k == 4:
		n := b.below(4)
		for range n {
			b.value(depth - 1)
		}
		b.any(n, api.IList, api.ICall, api.IChild)
	case k == 5:
		strand := b.put(api.IFork, 0)
		hole := b.put(api.IJump, 0)
		b.here(strand)
		b.statement(depth - 1)
		b.put(api.IEnd, 0)
		b.here(hole)
	case k == 6:
		b.value(depth - 1)
		b.any(0, api.ITimer, api.IAwait, api.ISettle, api.ONot, api.OLen)
	default:
		b.value(depth - 1)
		b.value(depth - 1)
		b.put(byte(api.OEq+b.below(11)), 0)
	}
}

// statement puts what leaves the stack as it was.
func (b *builder) statement(depth int) {
	if depth == 0 {
		return
	}
	first := len(b.code)
	b.value(depth - 1)
	switch b.below(6) {
	case 0: // if, with an else perhaps
		hole := b.put(api.IBranch, 0)
		b.statement(depth - 1)
		if b.below(2) == 0 {
			end := b.put(api.IJump, 0)
			b.here(hole)
			b.statement(depth - 1)
			hole = end
		}
		b.here(hole)
	case 1: // while
		hole := b.put(api.IBranch, 0)
		b.statement(depth - 1)
		b.put(api.IJump, first)
		b.here(hole)
	default:
		b.any(0, api.IDrop, api.IStore, api.ISleep, api.IReturn, api.IFail)
	}
}

func TestStrewn(t *testing.T) { // P14.1, P14.2
	d, fit := draws(14), 0
	for range 30000 {
		isPlain(t, d.code(1+d.below(12)), d.below(101))
		l := d.flow(d.below(40))
		isPlain(t, l, d.below(101))
		for range 2 { // what fits, but for an instruction or two
			at := d.below(len(l))
			switch d.below(3) {
			case 0:
				l[at] = d.instr(len(l))
			case 1:
				l[at].A = d.below(len(l) + 1)
			default:
				l[at], l[at/2] = l[at/2], l[at]
			}
			isPlain(t, l, d.below(101))
			if check(t, l, 0).e == api.OK {
				fit++
			}
		}
	}
	if fit < 5000 {
		t.Errorf("only %d of those that were changed fit", fit)
	}
}

// TestGoing goes through code that Check takes in all ways.
func TestGoing(t *testing.T) { // P14.9
	allShort(func(l []api.Instr) { goThrough(t, l) })
	d := draws(9)
	for range 20000 {
		goThrough(t, d.flow(d.below(60)))
	}
}

// goThrough goes through code in all ways, if Check takes it: the depth is what Depths tells, there is what is taken, nobody comes behind the end, and to a step always.
func goThrough(t *testing.T, l []api.Instr) {
	t.Helper()
	got := check(t, l, 0)
	if got.e != api.OK {
		return
	}
	come := map[place]bool{{0, 0}: true}
	todo := []place{{0, 0}}
	for len(todo) > 0 {
		p := todo[0]
		todo = todo[1:]
		if p.at >= len(l) || p.depth != got.depths[p.at] || p.depth < plainTakes(l[p.at]) || p.depth > got.stack || plainCircle(l, p.at) {
			t.Fatalf("%s: one comes to %d with %d, Depths %v", short(l), p.at, p.depth, got.depths)
		}
		next, ok := plainNext(l, p)
		if !ok {
			t.Fatalf("%s: wrong at %d with %d", short(l), p.at, p.depth)
		}
		for _, q := range next {
			if !come[q] {
				come[q] = true
				todo = append(todo, q)
			}
		}
	}
	met := 0
	for _, d := range got.depths {
		if d >= 0 {
			met++
		}
	}
	if met != len(come) {
		t.Fatalf("%s: one comes to %d places, Depths %v", short(l), len(come), got.depths)
	}
}
