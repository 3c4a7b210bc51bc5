package value_test

import (
	"cmp"
	"fmt"
	"math"
	"slices"
	"strings"
	"testing"

	"prompter/api"
	"prompter/value"
)

const (
	greatest = int64(math.MaxInt64)
	least    = int64(math.MinInt64)
)

var (
	minus    = math.Copysign(0, -1)
	infinite = math.Inf(1)
	nan      = math.NaN()
)

// The nodes of which tests put values together.
var (
	none = api.Node{Kind: api.KNone}
	no   = api.Node{Kind: api.KBool}
	yes  = api.Node{Kind: api.KBool, Int: 1}
)

func whole(x int64) api.Node {
	return api.Node{Kind: api.KInt, Int: x}
}

func text(s string) api.Node {
	return api.Node{Kind: api.KText, Text: s}
}

func number(z complex128) api.Node {
	return api.Node{Kind: api.KNum, Num: z}
}

func list(kids int) api.Node {
	return api.Node{Kind: api.KList, Kids: kids}
}

// long is a text of n bytes.
func long(n int) string {
	return strings.Repeat("x", n)
}

// told is v in a message: no more of it than may be read.
func told(v api.Value) string {
	return fmt.Sprintf("%.200s (%d nodes)", fmt.Sprintf("%.50v", []api.Node(v[:min(len(v), 20)])), len(v))
}

// many is n nodes, behind those that are told.
func many(n int, x api.Node, ahead ...api.Node) api.Value {
	return append(api.Value(ahead), slices.Repeat(api.Value{x}, n)...)
}

// kindIsKept tells whether a node has what the chapter lets its kind have, field by field.
func kindIsKept(n api.Node) bool {
	re, im := real(n.Num), imag(n.Num)
	nought := math.Float64bits(re) == 0 && math.Float64bits(im) == 0
	switch n.Kind {
	case 0:
		return n.Kids == 0 && n.Int == 0 && n.Text == "" && nought
	case 1:
		return n.Kids == 0 && (n.Int == 0 || n.Int == 1) && n.Text == "" && nought
	case 2:
		return n.Kids == 0 && n.Text == "" && nought
	case 3:
		return n.Kids == 0 && n.Int == 0 && nought
	case 4:
		return n.Kids == 0 && n.Int == 0 && n.Text == "" && isFine(re) && isFine(im)
	case 5:
		return n.Kids >= 0 && n.Int == 0 && n.Text == "" && nought
	}
	return false
}

func isFine(x float64) bool {
	return !math.IsNaN(x) && !math.IsInf(x, 0) && !(x == 0 && math.Signbit(x))
}

// behind is the place behind the value that begins at that place; -1 if there isn't all of it.
func behind(v api.Value, at int) int {
	if at < 0 || at >= len(v) {
		return -1
	}
	end := at + 1
	for range v[at].Kids {
		if end = behind(v, end); end < 0 {
			return -1
		}
	}
	return end
}

// wanted is what the chapter asks of Check and Size.
func wanted(v api.Value) (api.Errno, int) {
	if len(v) > 1024 {
		return api.ErrLong, 0
	}
	if behind(v, 0) != len(v) {
		return api.ErrShape, 0
	}
	size := 0
	for _, n := range v {
		if !kindIsKept(n) {
			return api.ErrShape, 0
		}
		size += 1 + len(n.Text)
	}
	if size > 4096 {
		return api.ErrLong, 0
	}
	return api.OK, size
}

// hold holds Check and Size against what is wanted of them.
func hold(t *testing.T, v api.Value) {
	t.Helper()
	e, size := wanted(v)
	if got := value.Check(v); got != e {
		t.Errorf("Check of %s: %d, not %d", told(v), got, e)
	}
	if got := value.Size(v); got != size {
		t.Errorf("Size of %s: %d, not %d", told(v), got, size)
	}
}

func TestCheck(t *testing.T) { // P4.1
	for _, x := range []struct {
		v    api.Value
		e    api.Errno
		size int
	}{
		{api.Value{none}, api.OK, 1},
		{api.Value{no}, api.OK, 1},
		{api.Value{yes}, api.OK, 1},
		{api.Value{whole(7)}, api.OK, 1},
		{api.Value{whole(least)}, api.OK, 1},
		{api.Value{text("")}, api.OK, 1},
		{api.Value{text("ab")}, api.OK, 3},
		{api.Value{text("\x00\xffé")}, api.OK, 5},
		{api.Value{number(0)}, api.OK, 1},
		{api.Value{number(complex(-math.MaxFloat64, math.SmallestNonzeroFloat64))}, api.OK, 1},
		{api.Value{list(0)}, api.OK, 1},
		{api.Value{list(2), whole(1), text("ab")}, api.OK, 5},
		{api.Value{list(2), list(1), list(1), text("a"), list(1), none}, api.OK, 7},
		// Not just one value.
		{nil, api.ErrShape, 0},
		{api.Value{}, api.ErrShape, 0},
		{api.Value{whole(7), whole(7)}, api.ErrShape, 0},
		{api.Value{list(0), list(0)}, api.ErrShape, 0},
		{api.Value{list(1)}, api.ErrShape, 0},
		{api.Value{list(2), none}, api.ErrShape, 0},
		{api.Value{list(1), none, none}, api.ErrShape, 0},
		{api.Value{list(2), list(1), none}, api.ErrShape, 0},
		{api.Value{list(2), list(2), none, none}, api.ErrShape, 0},
		{api.Value{list(1), list(0), list(0)}, api.ErrShape, 0},
		{api.Value{none, list(1)}, api.ErrShape, 0},
		// Kids that no list has.
		{api.Value{list(-1)}, api.ErrShape, 0},
		{api.Value{list(-1), none}, api.ErrShape, 0},
		{api.Value{list(2), list(-1), none, none}, api.ErrShape, 0},
		{api.Value{list(math.MinInt)}, api.ErrShape, 0},
		{api.Value{list(math.MaxInt)}, api.ErrShape, 0},
		{api.Value{list(math.MaxInt), list(math.MaxInt), list(4)}, api.ErrShape, 0},
		{api.Value{list(3), list(math.MaxInt), list(math.MinInt), none, none}, api.ErrShape, 0},
		// Kinds that there are not.
		{api.Value{{Kind: 6}}, api.ErrShape, 0},
		{api.Value{{Kind: 255}}, api.ErrShape, 0},
		{api.Value{list(2), none, {Kind: 6}}, api.ErrShape, 0},
		{api.Value{{Kind: api.KBool, Int: 2}}, api.ErrShape, 0},
		{api.Value{{Kind: api.KBool, Int: -1}}, api.ErrShape, 0},
		{api.Value{{Kind: api.KBool, Int: least}}, api.ErrShape, 0},
		{api.Value{{Kind: api.KNone, Int: 1}}, api.ErrShape, 0},
	} {
		if e := value.Check(x.v); e != x.e {
			t.Errorf("Check of %s: %d, not %d", told(x.v), e, x.e)
		}
		if n := value.Size(x.v); n != x.size {
			t.Errorf("Size of %s: %d, not %d", told(x.v), n, x.size)
		}
		hold(t, x.v)
	}
}

// TestUnusedFields fills in each node each field that its kind doesn't use, and the field that it uses with what it may not have.
func TestUnusedFields(t *testing.T) { // P4.1
	nums := []complex128{1, 1i, complex(minus, 0), complex(0, minus), complex(minus, minus), complex(infinite, 0), complex(0, -infinite), complex(nan, 0), complex(1, nan), complex(minus, 1)}
	for _, n := range []api.Node{none, no, yes, whole(0), whole(-5), text(""), text("a"), number(0), number(2 - 3i), list(0), {Kind: 6}} {
		var l []api.Node
		for _, kids := range []int{1, -1, math.MaxInt} {
			x := n
			x.Kids = kids
			l = append(l, x)
		}
		for _, i := range []int64{1, 2, -1, least, greatest} {
			x := n
			x.Int = i
			l = append(l, x)
		}
		for _, s := range []string{"a", "\x00", long(4095), long(4096)} {
			x := n
			x.Text = s
			l = append(l, x)
		}
		for _, z := range nums {
			x := n
			x.Num = z
			l = append(l, x)
		}
		for _, x := range l {
			hold(t, api.Value{x})
			hold(t, api.Value{list(2), none, x})
			hold(t, api.Value{list(2), x, none})
		}
	}
}

func TestCheckAtItsEdges(t *testing.T) { // P4.1
	for name, x := range map[string]struct {
		v    api.Value
		e    api.Errno
		size int
	}{
		"1024 nodes":                            {many(1023, none, list(1023)), api.OK, 1024},
		"1025 nodes":                            {many(1024, none, list(1024)), api.ErrLong, 0},
		"1024 nodes, but no value":              {many(1023, none, list(1022)), api.ErrShape, 0},
		"1025 nodes, but no value":              {many(1025, none), api.ErrLong, 0},
		"1025 nodes that are not right":         {many(1025, api.Node{Kind: 9}), api.ErrLong, 0},
		"1024 nodes, the last not right":        {append(many(1022, none, list(1023)), api.Node{Kind: 9}), api.ErrShape, 0},
		"1024 lists in one another":             {append(many(1023, list(1)), list(0)), api.OK, 1024},
		"1025 lists in one another":             {append(many(1024, list(1)), list(0)), api.ErrLong, 0},
		"a text of 4095 bytes":                  {api.Value{text(long(4095))}, api.OK, 4096},
		"a text of 4096 bytes":                  {api.Value{text(long(4096))}, api.ErrLong, 0},
		"a text of many bytes":                  {api.Value{text(long(1 << 24))}, api.ErrLong, 0},
		"4096 in all":                           {api.Value{list(2), text(long(2000)), text(long(2093))}, api.OK, 4096},
		"4097 in all":                           {api.Value{list(2), text(long(2000)), text(long(2094))}, api.ErrLong, 0},
		"1024 nodes, texts of 3 bytes":          {many(1023, text("abc"), list(1023)), api.OK, 1024 + 3*1023},
		"1024 nodes, texts of 4 bytes":          {many(1023, text("abcd"), list(1023)), api.ErrLong, 0},
		"1023 great texts":                      {many(1023, text(long(1<<20)), list(1023)), api.ErrLong, 0},
		"too great a text, but no value":        {api.Value{text(long(4096)), none}, api.ErrShape, 0},
		"too great a text ahead of a wrong one": {api.Value{list(2), text(long(4096)), {Kind: 9}}, api.ErrShape, 0},
		"too great a text where none may be":    {api.Value{{Kind: api.KInt, Text: long(4096)}}, api.ErrShape, 0},
	} {
		if e := value.Check(x.v); e != x.e {
			t.Errorf("Check of %s: %d, not %d", name, e, x.e)
		}
		if n := value.Size(x.v); n != x.size {
			t.Errorf("Size of %s: %d, not %d", name, n, x.size)
		}
	}
}

// grow hands over v, and all that it becomes by at most that many of those nodes behind it.
func grow(v api.Value, more int, few []api.Node, do func(v api.Value)) {
	do(v)
	for _, n := range few {
		if more > 0 {
			grow(append(slices.Clone(v), n), more-1, few, do)
		}
	}
}

// TestAllShortLists checks all lists of up to five nodes out of a few, right and wrong.
func TestAllShortLists(t *testing.T) { // P4.1
	few := []api.Node{none, text("ab"), list(0), list(1), list(2), list(3), list(-1), list(math.MaxInt), {Kind: api.KBool, Int: 2}}
	grow(nil, 5, few, func(v api.Value) { hold(t, v) })
}

// rising are right values in order: each is ahead of all that stand behind it.
var rising = []api.Value{
	{none},
	{no}, {yes},
	{whole(least)}, {whole(-1)}, {whole(0)}, {whole(1)}, {whole(2)}, {whole(256)}, {whole(greatest)},
	{text("")}, {text("\x00")}, {text("\x00\x00")}, {text("B")}, {text("a")}, {text("aa")}, {text("ab")}, {text("b")}, {text("é")}, {text("\xff")}, {text("\xff\x00")},
	{number(complex(-math.MaxFloat64, 5))}, {number(-2)}, {number(-1 - 1i)}, {number(-1)}, {number(-1 + 1i)}, {number(complex(-math.SmallestNonzeroFloat64, 0))},
	{number(-1i)}, {number(0)}, {number(1i)}, {number(complex(math.SmallestNonzeroFloat64, -7))}, {number(1 - 5i)}, {number(1)}, {number(2)}, {number(10)},
	{list(0)},
	{list(1), none}, {list(1), yes}, {list(1), whole(5)}, {list(1), whole(6)}, {list(1), text("z")}, {list(1), number(0)}, {list(1), list(0)}, {list(1), list(1), none}, {list(1), list(2), none, none},
	{list(2), none, none}, {list(2), none, list(1), none}, {list(2), none, list(2), none, none},
	{list(2), whole(1), whole(1)}, {list(2), whole(1), whole(2)}, {list(2), whole(1), text("")}, {list(2), whole(2), whole(1)}, {list(2), text("a"), text("b")}, {list(2), text("ab"), text("")},
	{list(2), list(0), text("z")}, {list(2), list(1), whole(9), whole(1)}, {list(2), list(1), whole(9), whole(2)}, {list(2), list(2), none, none, none},
	{list(3), none, none, none},
}

// wrong are lists of nodes that are no right values.
var wrong = []api.Value{
	nil, {}, {none, none}, {list(1)}, {list(-1)}, {{Kind: 6}}, {{Kind: api.KBool, Int: 2}}, {{Kind: api.KNone, Int: 1}},
	{number(complex(minus, 0))}, {number(complex(0, minus))}, {number(complex(nan, 0))}, {number(complex(infinite, 0))}, {{Kind: api.KInt, Num: complex(0, minus)}},
	{text(long(4096))}, many(1024, none, list(1024)),
}

func TestOrderAndSame(t *testing.T) { // P4.2
	for i, a := range rising {
		for j, b := range rising {
			b = slices.Clone(b)
			if got := value.Order(a, b); got != cmp.Compare(i, j) {
				t.Errorf("Order(%s, %s): %d", told(a), told(b), got)
			}
			if got := value.Same(a, b); got != (i == j) {
				t.Errorf("Same(%s, %s): %t", told(a), told(b), got)
			}
		}
	}
}

func TestOrderAndSameOfWhatIsWrong(t *testing.T) { // P4.2
	for _, w := range wrong {
		for _, v := range slices.Concat(rising, wrong) {
			for _, x := range [][2]api.Value{{w, v}, {v, w}, {w, slices.Clone(w)}} {
				if got := value.Order(x[0], x[1]); got != 0 {
					t.Errorf("Order(%s, %s): %d", told(x[0]), told(x[1]), got)
				}
				if value.Same(x[0], x[1]) {
					t.Errorf("Same(%s, %s): true", told(x[0]), told(x[1]))
				}
			}
		}
	}
}

func TestName(t *testing.T) { // P4.5
	for s, wanted := range map[string]bool{
		"a": true, "z": true, "a_1": true, "a0": true, "z9": true, "a_": true, "a__": true, "abcdefghijklmnopqrstuvwx": true, "a23456789_123456789_1234": true,
		"": false, "A": false, "1a": false, "_a": false, "_": false, "0": false, "aB": false, "a-b": false, "a b": false, " a": false, "a ": false, "a\n": false, "a.0": false,
		"abcdefghijklmnopqrstuvwxy": false, "é": false, "aé": false, "\x00": false, "a\x00": false, long(1 << 20): false,
	} {
		if value.Name(s) != wanted {
			t.Errorf("Name(%.40q): %t", s, !wanted)
		}
	}
	for c := range 256 {
		b := byte(c)
		letter := strings.IndexByte("abcdefghijklmnopqrstuvwxyz", b) >= 0
		other := strings.IndexByte("0123456789_", b) >= 0
		if s := string([]byte{b}); value.Name(s) != letter {
			t.Errorf("Name(%q): %t", s, !letter)
		}
		for _, s := range []string{string([]byte{'a', b}), string([]byte{'a', b, 'c'}), long(23) + string([]byte{b})} {
			if value.Name(s) != (letter || other) {
				t.Errorf("Name(%q): %t", s, !(letter || other))
			}
		}
	}
}
