package tree_test

import (
	"math"
	"slices"
	"testing"

	"prompter/api"
	"prompter/tree"
)

// draws are numbers that a short rule strews.
type draws uint64

func (d *draws) below(n int) int {
	*d = 6364136223846793005**d + 1442695040888963407
	return int(*d>>33) % n
}

// rowsOf are the Ops that stand among parts as that letter.
func rowsOf(as byte) (ops []byte) {
	for _, r := range rows {
		for _, op := range r.ops {
			if letter(op) == as {
				ops = append(ops, op)
			}
		}
	}
	return ops
}

// tree is a right tree of that letter; below the depth 0 it goes on with as few parts as it may.
func (d *draws) tree(as byte, depth int) api.Tree {
	ops := rowsOf(as)
	if as == 'E' && depth <= 0 {
		ops = []byte{20, 21, 22, 23, 24, 25, 26, 50, 56, 57}
	}
	x := api.Twig{Op: ops[d.below(len(ops))]}
	r, _ := rowOf(x.Op)
	switch r.text {
	case "own":
		x.Text = []string{"a", "b_2", "lets", "x"}[d.below(4)]
	case "any":
		x.Text = []string{"", "let", "\x00", "ab"}[d.below(4)]
	case "number":
		x.Int = int64(d.below(4))
	}
	more := d.below(4)
	if depth <= 0 {
		more = 0
	}
	var parts []api.Tree
	for n := more; ; n++ {
		if letters, may := spread(r.parts, n%4); may {
			for i := range letters {
				parts = append(parts, d.tree(letters[i], depth-1))
			}
			return top(x, parts...)
		}
	}
}

// any is a right tree of any letter.
func (d *draws) any() api.Tree {
	return d.tree("FPBSE"[d.below(5)], d.below(6))
}

// depth is how deep a right tree is, and how many twigs it has, by its parts.
func depth(t api.Tree) (deep, twigs int) {
	twigs = 1
	for range t[0].Kids {
		d, n := depth(t[twigs:])
		deep, twigs = max(deep, d), twigs+n
	}
	return deep + 1, twigs
}

func TestMakeAndParts(t *testing.T) { // P8.6
	d := draws(8)
	for range 20000 {
		x := d.any()
		hold(t, x)
		deep, n := depth(x)
		if at, e := tree.Check(x); at != 0 || e != api.OK || n != len(x) || tree.Depth(x) != deep {
			t.Fatalf("of %s: Check %d, %d; Depth %d, not %d", told(x), at, e, tree.Depth(x), deep)
		}
		parts, e := tree.Parts(x)
		if e != api.OK || len(parts) != x[0].Kids {
			t.Fatalf("Parts of %s: %v, %d", told(x), parts, e)
		}
		deepest := 0
		for _, p := range parts {
			if at, e := tree.Check(p); at != 0 || e != api.OK {
				t.Fatalf("a part of %s: %s: %d, %d", told(x), told(p), at, e)
			}
			deepest = max(deepest, tree.Depth(p))
		}
		if tree.Depth(x) != 1+deepest {
			t.Fatalf("Depth(%s): %d, its parts' %d", told(x), tree.Depth(x), deepest)
		}
		isMade(t, x[0], parts, x)
		made, _ := tree.Make(x[0], parts)
		isParted(t, made, parts...)
	}
}

// TestPutTogether makes trees of parts that may stand there and of others.
func TestPutTogether(t *testing.T) { // P8.3
	d := draws(3)
	for range 20000 {
		first := d.any()[0]
		parts := make([]api.Tree, d.below(4))
		for i := range parts {
			parts[i] = d.any()
		}
		x := top(first, parts...)
		if _, e, _ := check(x); e != api.OK {
			isNotMade(t, first, parts, e)
		} else {
			isMade(t, first, parts, x)
		}
	}
}

// TestChanged holds right trees in which something was changed, left out or put in.
func TestChanged(t *testing.T) { // P8.1
	d := draws(1)
	for range 100000 {
		x := d.any()
		for range 1 + d.below(2) {
			at := d.below(len(x))
			switch y := d.any(); d.below(8) {
			case 0:
				x[at].Op = byte(d.below(60))
			case 1:
				x[at].Kids += d.below(5) - 2
			case 2:
				x[at].Text = y[0].Text
			case 3:
				x[at].Int = []int64{1, -1, math.MaxInt64, math.MinInt64}[d.below(4)]
			case 4:
				x = append(slices.Delete(x, at, at+1), y[:d.below(2)]...)
			case 5:
				x = slices.Insert(x, at, y[0])
			case 6:
				x = slices.Replace(x, at, at+1, y...)
			default:
				x = append(x[:at+1], nested(36+d.below(6))...)
			}
			if len(x) == 0 {
				break
			}
		}
		hold(t, x)
	}
}

// spare is what stands in the spare room.
var spare = tw(99, 77, "spare")

// roomy is x with spare room behind it, in which there is something.
func roomy(x api.Tree) api.Tree {
	long := append(slices.Clone(x), slices.Repeat(api.Tree{spare}, 20)...)
	return long[:len(x)]
}

// untouched fails unless x has what it had, and its spare room too.
func untouched(t *testing.T, x, had api.Tree) {
	t.Helper()
	if !slices.Equal(x, had) {
		t.Errorf("%s was changed: %s", told(had), told(x))
	}
	for _, y := range x[len(x) : len(x)+20] {
		if y != spare {
			t.Errorf("the spare room behind %s: %v", told(had), y)
		}
	}
}

// spoil writes into all that x has, its spare room too.
func spoil(x api.Tree) {
	x = x[:cap(x)]
	for i := range x {
		x[i] = tw(98, 9, "spoilt")
	}
}

func TestOnlyRead(t *testing.T) { // P8.5
	d := draws(5)
	for range 2000 {
		had, other := d.any(), d.any()
		if d.below(2) == 0 {
			had[d.below(len(had))].Kids++
		}
		x, y := roomy(had), roomy(other)
		parts := append(make([]api.Tree, 0, 9), x, y)
		tree.Check(x)
		tree.Depth(x)
		tree.Parts(x)
		tree.Make(tw(36, 2), parts)
		tree.Make(tw(25, 2), parts)
		untouched(t, x, had)
		untouched(t, y, other)
		for _, p := range parts[2:9] {
			if p != nil {
				t.Errorf("Make wrote into the spare room: %v", p)
			}
		}
	}
}

func TestPartsShareNothing(t *testing.T) { // P8.5
	had := []api.Tree{{in(1)}, nested(2), {tw(25, 0)}, nested(1)}
	for spoilt := range had {
		x := roomy(top(tw(25, 0), had...))
		l, e := tree.Parts(x)
		if e != api.OK || len(l) != len(had) {
			t.Fatalf("Parts: %v, %d", l, e)
		}
		spoil(append(l[spoilt], in(7)))
		spoil(l[spoilt])
		untouched(t, x, top(tw(25, 0), had...))
		spoil(x)
		for i, p := range l {
			if i != spoilt && !slices.Equal(p, had[i]) {
				t.Errorf("the part %d, behind what was spoilt: %s", i, told(p))
			}
		}
	}
}

func TestMakeSharesNothing(t *testing.T) { // P8.5
	parts := []api.Tree{roomy(nested(1)), roomy(nested(2))}
	want := top(tw(36, 0), nested(1), nested(2))
	x, _ := tree.Make(tw(36, 2), parts)
	again, e := tree.Make(tw(36, 2), parts)
	if e != api.OK {
		t.Fatalf("Make: %d", e)
	}
	spoil(x)
	untouched(t, parts[0], nested(1))
	untouched(t, parts[1], nested(2))
	spoil(parts[0])
	spoil(parts[1])
	if !slices.Equal(again, want) {
		t.Errorf("Make, behind what was spoilt: %s", told(again))
	}
}
