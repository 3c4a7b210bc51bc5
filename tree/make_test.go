package tree_test

import (
	"math"
	"slices"
	"testing"

	"prompter/api"
	"prompter/tree"
)

// isParted fails unless Parts of t are those.
func isParted(t *testing.T, x api.Tree, parts ...api.Tree) {
	t.Helper()
	l, e := tree.Parts(x)
	if e != api.OK || !slices.EqualFunc(l, parts, slices.Equal) {
		t.Errorf("Parts(%s): %v, %d, not %v", told(x), l, e, parts)
	}
}

// isMade fails unless Make of these is x.
func isMade(t *testing.T, first api.Twig, parts []api.Tree, x api.Tree) {
	t.Helper()
	got, e := tree.Make(first, parts)
	if e != api.OK || !slices.Equal(got, x) {
		t.Errorf("Make(%v, %v): %s, %d, not %s", first, parts, told(got), e, told(x))
	}
}

// isNotMade fails unless Make of these tells that error, and nothing else.
func isNotMade(t *testing.T, first api.Twig, parts []api.Tree, e api.Errno) {
	t.Helper()
	if x, got := tree.Make(first, parts); got != e || len(x) > 0 {
		t.Errorf("Make(%v, %d parts): %s, %d, not %d", first, len(parts), told(x), got, e)
	}
}

func TestParts(t *testing.T) { // P8.2
	one, two := api.Tree{in(1)}, api.Tree{tw(44, 1), in(2)}
	block := api.Tree{tw(3, 1), tw(8, 1), tw(26, 0, "p")}
	isParted(t, one)
	isParted(t, api.Tree{tw(3, 0)})
	isParted(t, api.Tree{tw(36, 2), in(1), tw(44, 1), in(2)}, one, two)
	isParted(t, api.Tree{tw(36, 2), tw(44, 1), in(2), in(1)}, two, one)
	isParted(t, api.Tree{tw(1, 2, "f"), tw(2, 0, "p"), tw(3, 1), tw(8, 1), tw(26, 0, "p")}, api.Tree{tw(2, 0, "p")}, block)
	isParted(t, api.Tree{tw(25, 3), tw(25, 0), tw(25, 1), tw(25, 0), in(1)}, api.Tree{tw(25, 0)}, api.Tree{tw(25, 1), tw(25, 0)}, one)
	isParted(t, top(tw(25, 0), leaves(2047, in(1))...), leaves(2047, in(1))...)
	isParted(t, nested(39), nested(38))
}

func TestPartsWrong(t *testing.T) { // P8.2
	for _, x := range []struct {
		t api.Tree
		e api.Errno
	}{
		{nil, api.ErrShape}, {api.Tree{{}}, api.ErrShape}, {api.Tree{tw(25, -1)}, api.ErrShape}, {api.Tree{tw(36, 2), in(1)}, api.ErrShape}, {api.Tree{in(1), in(1)}, api.ErrShape},
		{nested(40), api.ErrLong}, {append(nested(40), in(1)), api.ErrShape}, {make(api.Tree, 2049), api.ErrLong}, {top(tw(25, 0), leaves(2048, in(1))...), api.ErrLong},
	} {
		if l, e := tree.Parts(x.t); e != x.e || len(l) > 0 {
			t.Errorf("Parts(%s): %d parts, %d, not %d", told(x.t), len(l), e, x.e)
		}
	}
}

func TestMake(t *testing.T) { // P8.3
	one, two := api.Tree{in(1)}, api.Tree{in(2)}
	block := api.Tree{tw(3, 0)}
	sum := api.Tree{tw(36, 2), in(1), in(2)}
	for _, kids := range []int{0, 2, 9, -1, math.MaxInt, math.MinInt} { // top's own Kids does not count
		isMade(t, tw(36, kids), []api.Tree{one, two}, sum)
		isMade(t, api.Twig{Op: 23, Int: 1, Kids: kids}, nil, one)
		isMade(t, tw(3, kids), []api.Tree{}, block)
	}
	isMade(t, tw(1, 0, "f"), []api.Tree{{tw(2, 0, "a")}, {tw(2, 0, "b")}, block}, api.Tree{tw(1, 3, "f"), tw(2, 0, "a"), tw(2, 0, "b"), tw(3, 0)})
	isMade(t, tw(6, 0), []api.Tree{sum, block}, api.Tree{tw(6, 2), tw(36, 2), in(1), in(2), tw(3, 0)})
	isMade(t, tw(6, 0), []api.Tree{one, block, block}, api.Tree{tw(6, 3), in(1), tw(3, 0), tw(3, 0)})
	isMade(t, tw(43, 0), []api.Tree{nested(38)}, nested(39))
	isMade(t, tw(25, 0), leaves(2047, in(1)), top(tw(25, 0), leaves(2047, in(1))...))
}

func TestMakeWrong(t *testing.T) { // P8.3
	one, block := api.Tree{in(1)}, api.Tree{tw(3, 0)}
	bad, deep, long := api.Tree{in(-1)}, nested(40), top(tw(25, 0), leaves(2048, in(1))...)
	for _, x := range []struct {
		first api.Twig
		parts []api.Tree
		e     api.Errno
	}{
		{tw(36, 2), []api.Tree{one}, api.ErrShape}, {tw(36, 1), []api.Tree{one}, api.ErrShape}, {tw(36, 2), []api.Tree{one, one, one}, api.ErrShape}, {tw(36, 0), nil, api.ErrShape},
		{tw(36, 2), []api.Tree{one, block}, api.ErrShape}, {tw(4, 1, "let"), []api.Tree{one}, api.ErrShape}, {api.Twig{}, nil, api.ErrShape}, {in(-1), nil, api.ErrShape},
		{tw(36, 2), []api.Tree{one, nil}, api.ErrShape}, {tw(36, 2), []api.Tree{append(one, one...), nil}, api.ErrShape}, {tw(25, 1), []api.Tree{bad}, api.ErrShape},

		// A tree cut in two elsewhere than its parts end is no two parts.
		{tw(36, 2), []api.Tree{{tw(44, 1)}, {in(1), in(2)}}, api.ErrShape},

		// The first part that is wrong is told, ahead of all else.
		{tw(36, 2), []api.Tree{bad, deep}, api.ErrShape}, {tw(36, 2), []api.Tree{deep, bad}, api.ErrLong}, {tw(36, 2), []api.Tree{one, long, bad}, api.ErrLong},
		{api.Twig{}, []api.Tree{one, deep}, api.ErrLong}, {api.Twig{}, []api.Tree{one, long}, api.ErrLong},
		{tw(25, 0), append(leaves(2048, in(1)), bad), api.ErrShape}, {tw(25, 0), append(leaves(3000, in(1)), bad, deep), api.ErrShape},

		// Too many twigs are told ahead of the shape, the shape ahead of the depth.
		{tw(25, 0), leaves(2048, in(1)), api.ErrLong}, {tw(23, 0), leaves(2048, in(1)), api.ErrLong}, {api.Twig{}, leaves(1<<20, in(1)), api.ErrLong},
		{tw(36, 0), []api.Tree{top(tw(25, 0), leaves(1023, in(1))...), top(tw(25, 0), leaves(1023, in(1))...)}, api.ErrLong},
		{tw(43, 1), []api.Tree{nested(39)}, api.ErrLong}, {tw(43, 1), []api.Tree{nested(39), one}, api.ErrShape}, {tw(3, 1), []api.Tree{nested(39)}, api.ErrShape},
		{tw(36, 2), []api.Tree{one, nested(39)}, api.ErrLong}, {tw(36, 2), []api.Tree{nested(39), one}, api.ErrLong},
	} {
		isNotMade(t, x.first, x.parts, x.e)
	}
	isNotMade(t, tw(23, 0), leaves(2047, in(1)), api.ErrShape)
}
