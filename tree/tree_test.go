package tree_test

import (
	"fmt"
	"math"
	"regexp"
	"slices"
	"strings"
	"testing"

	"prompter/api"
	"prompter/tree"
)

// A row is a row of the chapter's table: what Text is, and what the parts are, as letters: P an OParam, B an OBlock, E an expression, S a statement; a * stands for any number of the one ahead of it, a ? for one or none.
type row struct {
	ops         []byte
	text, parts string
}

// rows are the chapter's table.
var rows = []row{
	{[]byte{1}, "own", "P*B"},
	{[]byte{2}, "own", ""},
	{[]byte{3}, "", "S*"},
	{[]byte{4, 5}, "own", "E"},
	{[]byte{6}, "", "EBB?"},
	{[]byte{7}, "", "EB"},
	{[]byte{8, 9, 10, 11}, "", "E"},
	{[]byte{20, 21, 22, 57}, "", ""},
	{[]byte{23}, "number", ""},
	{[]byte{24}, "any", ""},
	{[]byte{25}, "", "E*"},
	{[]byte{26, 56}, "own", ""},
	{[]byte{30, 31, 32, 33, 34, 35, 36, 37, 38, 39, 40, 41, 42}, "", "EE"},
	{[]byte{43, 44, 45, 46, 47, 48, 52, 54, 55}, "", "E"},
	{[]byte{50, 51}, "own", "E*"},
	{[]byte{53}, "", "B"},
}

// rowOf is the row of an Op.
func rowOf(op byte) (row, bool) {
	for _, r := range rows {
		if slices.Contains(r.ops, op) {
			return r, true
		}
	}
	return row{}, false
}

// letter is as what a twig of that Op stands among parts.
func letter(op byte) byte {
	switch {
	case op == 1:
		return 'F'
	case op == 2:
		return 'P'
	case op == 3:
		return 'B'
	case op >= 4 && op <= 11:
		return 'S'
	}
	return 'E'
}

// spread is the letters of so many parts, if there may be so many.
func spread(parts string, n int) (string, bool) {
	switch {
	case n < 0 || n > 2048:
		return "", false
	case parts == "P*B" && n > 0:
		return strings.Repeat("P", n-1) + "B", true
	case strings.HasSuffix(parts, "*"):
		return strings.Repeat(parts[:1], n), true
	case parts == "EBB?" && (n == 2 || n == 3):
		return "EBB"[:n], true
	}
	return parts, n == len(parts) && !strings.ContainsAny(parts, "*?")
}

var (
	nameForm = regexp.MustCompile(`^[a-z][a-z0-9_]{0,23}$`)
	reserved = strings.Fields("flow let if else while return fail sleep do none true false or and not len num re im conj call child timer fork await settle take version")
)

// saysRight tells whether Text and Int are as the row says.
func (r row) saysRight(x api.Twig) bool {
	switch r.text {
	case "own":
		return x.Int == 0 && nameForm.MatchString(x.Text) && !slices.Contains(reserved, x.Text)
	case "any":
		return x.Int == 0 && len(x.Text) <= 4095
	case "number":
		return x.Int >= 0 && x.Text == ""
	}
	return x.Int == 0 && x.Text == ""
}

// check is Check as the chapter says it, and the depth, with the letters of the parts that are still to come, the innermost ones last.
func check(t api.Tree) (at int, e api.Errno, depth int) {
	if len(t) > 2048 {
		return 0, api.ErrLong, 0
	}
	var open []string
	tooDeep := -1
	for i, x := range t {
		for len(open) > 0 && open[len(open)-1] == "" {
			open = open[:len(open)-1]
		}
		if i > 0 {
			if len(open) == 0 { // behind the tree
				return i, api.ErrShape, 0
			}
			last := &open[len(open)-1]
			if (*last)[0] != letter(x.Op) {
				return i, api.ErrShape, 0
			}
			*last = (*last)[1:]
		}
		r, is := rowOf(x.Op)
		letters, may := spread(r.parts, x.Kids)
		if !is || !may || !r.saysRight(x) {
			return i, api.ErrShape, 0
		}
		open = append(open, letters)
		if depth = max(depth, len(open)); len(open) > 40 && tooDeep < 0 {
			tooDeep = i
		}
	}
	if len(t) == 0 || strings.Join(open, "") != "" {
		return len(t), api.ErrShape, 0
	}
	if tooDeep >= 0 {
		return tooDeep, api.ErrLong, 0
	}
	return 0, api.OK, depth
}

// told is a tree in few words.
func told(t api.Tree) string {
	if len(t) > 12 {
		return fmt.Sprintf("%v .. (%d twigs)", t[:12], len(t))
	}
	return fmt.Sprintf("%.200q", fmt.Sprint(t))
}

// isChecked fails unless Check tells that of t.
func isChecked(t *testing.T, x api.Tree, at int, e api.Errno) {
	t.Helper()
	if gotAt, gotE := tree.Check(x); gotAt != at || gotE != e {
		t.Errorf("Check(%s): %d, %d, not %d, %d", told(x), gotAt, gotE, at, e)
	}
}

// hold fails unless Check and Depth tell of t what the chapter says, and Parts has Check's error.
func hold(t *testing.T, x api.Tree) {
	t.Helper()
	at, e, depth := check(x)
	isChecked(t, x, at, e)
	if got := tree.Depth(x); got != depth {
		t.Errorf("Depth(%s): %d, not %d", told(x), got, depth)
	}
	if l, got := tree.Parts(x); got != e || e != api.OK && len(l) > 0 {
		t.Errorf("Parts(%s): %d parts, %d, not %d", told(x), len(l), got, e)
	}
}

// isWrong fails unless Check tells that error, which is none, or Depth or Parts tell anything of t.
func isWrong(t *testing.T, x api.Tree, at int, e api.Errno) {
	t.Helper()
	isChecked(t, x, at, e)
	hold(t, x)
}

// tw is a twig: an Op, how many parts, and perhaps a Text.
func tw(op byte, kids int, text ...string) api.Twig {
	return api.Twig{Op: op, Kids: kids, Text: strings.Join(text, "")}
}

// in is an OInt.
func in(x int64) api.Twig { return api.Twig{Op: 23, Int: x} }

// top is a tree of a twig and parts, as many as they are.
func top(x api.Twig, parts ...api.Tree) api.Tree {
	x.Kids = len(parts)
	return append(api.Tree{x}, slices.Concat(parts...)...)
}

// leaves are so many trees of one twig.
func leaves(n int, x api.Twig) []api.Tree {
	return slices.Repeat([]api.Tree{{x}}, n)
}

// nested is so many ONot in one another, an OInt in the innermost.
func nested(n int) api.Tree {
	return append(slices.Repeat(api.Tree{tw(43, 1)}, n), in(1))
}

// sample is a small right tree that begins with that Op.
func sample(op byte) api.Tree {
	r, _ := rowOf(op)
	x := api.Twig{Op: op}
	if r.text == "own" {
		x.Text = "a"
	}
	var parts []api.Tree
	for _, p := range strings.NewReplacer("*", "", "?", "").Replace(r.parts) {
		parts = append(parts, map[rune]api.Tree{'P': {tw(2, 0, "p")}, 'B': {tw(3, 0)}, 'S': {tw(11, 1), in(1)}, 'E': {in(2)}}[p])
	}
	return top(x, parts...)
}

func TestCheckRight(t *testing.T) { // P8.1
	for _, x := range []api.Tree{
		{in(5)}, {in(0)}, {in(math.MaxInt64)}, {tw(2, 0, "p")}, {tw(3, 0)}, {tw(24, 0)}, {tw(24, 0, "\x00\xff let")},
		{tw(1, 1, "f"), tw(3, 0)},
		{tw(1, 3, "f"), tw(2, 0, "a"), tw(2, 0, "a"), tw(3, 0)},
		{tw(6, 2), tw(21, 0), tw(3, 0)}, {tw(6, 3), tw(21, 0), tw(3, 0), tw(3, 1), tw(11, 1), tw(57, 0)},
		{tw(25, 0)}, {tw(25, 3), tw(25, 1), tw(20, 0), tw(25, 0), in(1)},
		{tw(50, 0, "pay")}, {tw(51, 2, "g"), in(1), tw(53, 1), tw(3, 0)},
		{tw(26, 0, "a"+strings.Repeat("_", 23))}, {tw(56, 0, "lets")},
	} {
		hold(t, x)
		isChecked(t, x, 0, api.OK)
	}
	for op := range 256 {
		if _, is := rowOf(byte(op)); is {
			isChecked(t, sample(byte(op)), 0, api.OK)
			hold(t, sample(byte(op)))
		} else {
			isWrong(t, api.Tree{tw(byte(op), 0)}, 0, api.ErrShape)
			isWrong(t, api.Tree{tw(25, 1), tw(byte(op), 0)}, 1, api.ErrShape)
		}
	}
}

func TestCheckWrong(t *testing.T) { // P8.1
	for _, x := range []struct {
		t  api.Tree
		at int
	}{
		{nil, 0}, {api.Tree{}, 0}, {api.Tree{{}}, 0},
		{api.Tree{in(-1)}, 0}, {api.Tree{in(math.MinInt64)}, 0}, {api.Tree{in(1), in(1)}, 1}, {api.Tree{in(1), in(-1)}, 1}, {api.Tree{in(1), in(1), {}}, 1},
		{api.Tree{tw(36, 2), in(1)}, 2}, {api.Tree{tw(36, 2)}, 1}, {api.Tree{tw(36, 1), in(1)}, 0}, {api.Tree{tw(36, 3), in(1), in(1), in(1)}, 0}, {api.Tree{tw(36, -1)}, 0},
		{api.Tree{tw(4, 1, "x"), tw(3, 0)}, 1}, {api.Tree{tw(4, 1, "let"), in(1)}, 0}, {api.Tree{tw(4, 1), in(1)}, 0}, {api.Tree{tw(4, 1, "x"), tw(2, 0, "x")}, 1},
		{api.Tree{tw(4, 1, "x"), tw(4, 1, "y"), in(1)}, 1}, {api.Tree{tw(4, 1, "x"), tw(1, 1, "f"), tw(3, 0)}, 1},
		{api.Tree{tw(6, 2), tw(21, 0), tw(21, 0)}, 2}, {api.Tree{tw(6, 3), tw(21, 0), tw(3, 0), tw(21, 0)}, 3}, {api.Tree{tw(6, 2), tw(3, 0), tw(3, 0)}, 1},
		{api.Tree{tw(6, 1), tw(21, 0)}, 0}, {api.Tree{tw(6, 4), tw(21, 0), tw(3, 0), tw(3, 0), tw(3, 0)}, 0},
		{api.Tree{tw(7, 3), tw(21, 0), tw(3, 0), tw(3, 0)}, 0}, {api.Tree{tw(7, 2), tw(21, 0), tw(8, 1), in(1)}, 2},
		{api.Tree{tw(1, 0, "f")}, 0}, {api.Tree{tw(1, 1, "f"), tw(2, 0, "p")}, 1}, {api.Tree{tw(1, 2, "f"), tw(3, 0), tw(3, 0)}, 1}, {api.Tree{tw(1, 2, "f"), tw(2, 0, "p"), tw(2, 0, "p")}, 2},
		{api.Tree{tw(3, 1), tw(3, 0)}, 1}, {api.Tree{tw(3, 1), in(1)}, 1}, {api.Tree{tw(3, 2), tw(11, 1), in(1)}, 3}, {api.Tree{tw(3, 1, "b")}, 0},
		{api.Tree{tw(53, 1), in(1)}, 1}, {api.Tree{tw(53, 0)}, 0}, {api.Tree{tw(53, 2), tw(3, 0), tw(3, 0)}, 0},
		{api.Tree{tw(26, 0, "a"+strings.Repeat("_", 24))}, 0}, {api.Tree{tw(26, 0, "A")}, 0}, {api.Tree{tw(26, 0, "1a")}, 0}, {api.Tree{{Op: 26, Text: "a", Int: 1}}, 0},
		{api.Tree{{Op: 23, Int: 1, Text: "1"}}, 0}, {api.Tree{{Op: 24, Int: 1}}, 0}, {api.Tree{{Op: 24, Int: -1, Text: "a"}}, 0}, {api.Tree{{Op: 20, Int: 1}}, 0},
		{api.Tree{tw(25, 2), tw(25, 1), in(1), tw(3, 0)}, 3}, {api.Tree{tw(25, 2), tw(25, 1), in(1), in(1), in(1)}, 4},
		{api.Tree{tw(50, 1, "pay"), tw(8, 1), in(1)}, 1}, {api.Tree{tw(51, 1, "fork"), in(-1)}, 0},
	} {
		isWrong(t, x.t, x.at, api.ErrShape)
	}
	for _, word := range reserved {
		for _, op := range []byte{1, 2, 4, 5, 26, 50, 51, 56} {
			x := sample(op)
			x[0].Text = word
			isWrong(t, x, 0, api.ErrShape)
		}
	}
}

// TestCheckTwig holds one twig with all that its fields may be.
func TestCheckTwig(t *testing.T) { // P8.1
	texts := []string{"", "a", "a_1", "let", "version", "1", "_", "A", "a b", "a\n", "z" + strings.Repeat("9", 23), "z" + strings.Repeat("9", 24), strings.Repeat("\xff", 4095), strings.Repeat("a", 4096)}
	ints := []int64{0, 1, -1, math.MaxInt64, math.MinInt64}
	kids := []int{0, 1, 2, 3, 4, -1, 2047, 2048, 2049, math.MaxInt, math.MinInt}
	for op := range 64 { // TestCheckRight holds all others
		for _, text := range texts {
			for _, x := range ints {
				for _, n := range kids {
					hold(t, api.Tree{{Op: byte(op), Kids: n, Int: x, Text: text}})
				}
			}
		}
	}
}

// TestCheckAny tells how many parts those may have that may have any number.
func TestCheckAny(t *testing.T) { // P8.1
	for _, op := range []byte{1, 3, 25, 50, 51} {
		x := sample(op)[:1]
		for _, n := range []int{4, 2047, 2048} {
			x[0].Kids = n
			isWrong(t, x, 1, api.ErrShape) // the first one lacks
		}
		for _, n := range []int{2049, 4096, math.MaxInt, -1, math.MinInt} {
			x[0].Kids = n
			isWrong(t, x, 0, api.ErrShape)
		}
	}
}

// TestCheckText holds texts about the longest one.
func TestCheckText(t *testing.T) { // P8.1
	isChecked(t, api.Tree{tw(24, 0, strings.Repeat("\n", 4095))}, 0, api.OK)
	isWrong(t, api.Tree{tw(24, 0, strings.Repeat("\n", 4096))}, 0, api.ErrShape)
	isWrong(t, api.Tree{tw(44, 1), tw(24, 0, strings.Repeat("a", 1<<20))}, 1, api.ErrShape)
}

// TestCheckPairs holds each part at each place, of each twig.
func TestCheckPairs(t *testing.T) { // P8.1
	for op := range 60 {
		x := sample(byte(op))
		for at := 1; at < len(x); at++ {
			for part := range 60 {
				hold(t, slices.Replace(slices.Clone(x), at, at+1, sample(byte(part))...))
			}
		}
		for part := range 60 {
			hold(t, append(slices.Clone(x), sample(byte(part))...))
		}
	}
}

// TestCheckShort holds all short lists of some twigs.
func TestCheckShort(t *testing.T) { // P8.1, P8.2
	some := []api.Twig{
		tw(1, 1, "f"), tw(1, 2, "f"), tw(2, 0, "p"), tw(3, 0), tw(3, 1), tw(3, 2), tw(4, 1, "x"), tw(6, 2), tw(6, 3),
		in(1), in(-1), tw(25, 0), tw(25, 2), tw(36, 2), tw(53, 1), {},
	}
	var all func(x api.Tree, more int)
	all = func(x api.Tree, more int) {
		hold(t, x)
		if more > 0 {
			for _, y := range some {
				all(append(slices.Clip(x), y), more-1)
			}
		}
	}
	all(nil, 4)
}

func TestCheckLong(t *testing.T) { // P8.1
	full := top(tw(25, 0), leaves(2047, in(1))...)
	isChecked(t, full, 0, api.OK)
	hold(t, full)
	long := top(tw(25, 0), leaves(2048, in(1))...)
	isWrong(t, long, 0, api.ErrLong)
	isWrong(t, make(api.Tree, 2049), 0, api.ErrLong)
	isWrong(t, make(api.Tree, 1<<20), 0, api.ErrLong)
	isWrong(t, make(api.Tree, 2048), 0, api.ErrShape)
	isWrong(t, append(slices.Clone(full), in(1)), 0, api.ErrLong) // ahead of what stands behind the tree
	full[2047] = in(-1)
	isWrong(t, full, 2047, api.ErrShape)
	isWrong(t, full[:2047], 2047, api.ErrShape)
}

func TestCheckDeep(t *testing.T) { // P8.1, P8.2
	isChecked(t, nested(39), 0, api.OK)
	hold(t, nested(39))
	isWrong(t, nested(40), 40, api.ErrLong)
	isWrong(t, nested(100), 40, api.ErrLong)
	isWrong(t, nested(2047), 40, api.ErrLong)
	isWrong(t, nested(2048), 0, api.ErrLong)

	deep, flat := nested(40), api.Tree{in(1)}
	isWrong(t, top(tw(25, 0), flat, deep, deep), 41, api.ErrLong)
	isWrong(t, top(tw(25, 0), nested(38), nested(39), flat), 79, api.ErrLong)
	isWrong(t, top(tw(36, 0), nested(38), nested(41)), 79, api.ErrLong)

	// What has no shape goes ahead, wherever it stands.
	isWrong(t, append(nested(40), in(1)), 41, api.ErrShape)
	isWrong(t, nested(100)[:100], 100, api.ErrShape)
	isWrong(t, top(tw(25, 0), deep, flat, api.Tree{in(-1)}), 43, api.ErrShape)
	isWrong(t, top(tw(4, 0, "let"), deep), 0, api.ErrShape)

	// Blocks are deep, too.
	var blocks api.Tree
	for range 13 {
		blocks = append(blocks, tw(3, 1), tw(11, 1), tw(53, 1))
	}
	isChecked(t, append(slices.Clone(blocks), tw(3, 0)), 0, api.OK)
	isWrong(t, append(slices.Clone(blocks), tw(3, 1), tw(11, 1), in(1)), 40, api.ErrLong)
}

func TestDepth(t *testing.T) { // P8.2
	one := api.Tree{in(1)}
	for _, x := range []struct {
		t     api.Tree
		depth int
	}{
		{one, 1}, {api.Tree{tw(25, 0)}, 1}, {top(tw(36, 0), one, one), 2}, {top(tw(36, 0), nested(3), one), 5}, {top(tw(36, 0), one, nested(3)), 5},
		{top(tw(25, 0), nested(1), nested(4), nested(2)), 6}, {nested(39), 40},
		{api.Tree{tw(1, 2, "f"), tw(2, 0, "p"), tw(3, 1), tw(8, 1), tw(26, 0, "p")}, 4},
		{nil, 0}, {api.Tree{{}}, 0}, {nested(40), 0}, {append(nested(3), in(1)), 0}, {nested(3)[:3], 0}, {make(api.Tree, 3000), 0},
		{top(tw(25, 0), leaves(2047, in(1))...), 2}, {top(tw(25, 0), leaves(2048, in(1))...), 0},
	} {
		if got := tree.Depth(x.t); got != x.depth {
			t.Errorf("Depth(%s): %d, not %d", told(x.t), got, x.depth)
		}
	}
}

func TestExpressionAndStatement(t *testing.T) { // P8.4
	for op := range 256 {
		_, is := rowOf(byte(op))
		if got := tree.Expression(byte(op)); got != (is && op >= 20) {
			t.Errorf("Expression(%d): %t", op, got)
		}
		if got := tree.Statement(byte(op)); got != (op >= 4 && op <= 11) {
			t.Errorf("Statement(%d): %t", op, got)
		}
	}
}
