package value_test

import (
	"math"
	"slices"
	"strings"
	"testing"

	"prompter/api"
	"prompter/value"
)

// isValue fails unless v is what is wanted, to the bits of its numbers.
func isValue(t *testing.T, name string, v, wanted api.Value) {
	t.Helper()
	if !slices.EqualFunc(v, wanted, sameBits) {
		t.Errorf("%s: %s, not %s", name, told(v), told(wanted))
	}
}

// sameBits tells whether two nodes are the same, to the bits of their numbers.
func sameBits(a, b api.Node) bool {
	return a.Kind == b.Kind && a.Kids == b.Kids && a.Int == b.Int && a.Text == b.Text &&
		math.Float64bits(real(a.Num)) == math.Float64bits(real(b.Num)) && math.Float64bits(imag(a.Num)) == math.Float64bits(imag(b.Num))
}

func TestNoneBoolInt(t *testing.T) { // P4.3
	isValue(t, "None", value.None(), api.Value{{Kind: api.KNone}})
	isValue(t, "Bool(false)", value.Bool(false), api.Value{{Kind: api.KBool}})
	isValue(t, "Bool(true)", value.Bool(true), api.Value{{Kind: api.KBool, Int: 1}})
	for _, x := range []int64{0, 1, -1, 7, greatest, least} {
		isValue(t, "Int", value.Int(x), api.Value{{Kind: api.KInt, Int: x}})
	}
}

func TestText(t *testing.T) { // P4.3
	for _, s := range []string{"", "ab", "\x00", "\xff\xfe", "é", long(4095), strings.Repeat("\xff", 4095)} {
		v, e := value.Text(s)
		isValue(t, "Text", v, api.Value{{Kind: api.KText, Text: s}})
		if e != api.OK || value.Check(v) != api.OK {
			t.Errorf("Text of %d bytes: %d", len(s), e)
		}
	}
	for _, n := range []int{4096, 4097, 1 << 24} {
		if v, e := value.Text(long(n)); e != api.ErrLong || len(v) != 0 {
			t.Errorf("Text of %d bytes: %d nodes, %d", n, len(v), e)
		}
	}
}

func TestNum(t *testing.T) { // P4.3
	for _, x := range [][2]complex128{
		{0, 0}, {2 - 3i, 2 - 3i}, {complex(math.MaxFloat64, -math.SmallestNonzeroFloat64), complex(math.MaxFloat64, -math.SmallestNonzeroFloat64)},
		{complex(minus, 0), 0}, {complex(0, minus), 0}, {complex(minus, minus), 0}, {complex(minus, 3), 3i}, {complex(-3, minus), -3},
	} {
		v, e := value.Num(x[0])
		isValue(t, "Num", v, api.Value{{Kind: api.KNum, Num: x[1]}})
		if e != api.OK || value.Check(v) != api.OK {
			t.Errorf("Num(%v): %d", x[0], e)
		}
	}
	for _, part := range []float64{infinite, -infinite, nan, -nan} {
		for _, z := range []complex128{complex(part, 0), complex(0, part), complex(part, part), complex(minus, part)} {
			if v, e := value.Num(z); e != api.ErrRange || len(v) != 0 {
				t.Errorf("Num(%v): %s, %d", z, told(v), e)
			}
		}
	}
}

func TestList(t *testing.T) { // P4.4
	great, wide := api.Value{text(long(4000))}, many(1022, none, list(1022))
	tooGreat, tooWide, shapeless := api.Value{text(long(4096))}, many(1024, none, list(1024)), api.Value{none, none}
	for name, x := range map[string]struct {
		l      []api.Value
		wanted api.Value
		e      api.Errno
	}{
		"of none":                    {nil, api.Value{list(0)}, api.OK},
		"of no members":              {[]api.Value{}, api.Value{list(0)}, api.OK},
		"of one":                     {[]api.Value{{whole(4)}}, api.Value{list(1), whole(4)}, api.OK},
		"of lists":                   {[]api.Value{{list(0)}, {list(2), yes, text("a")}, {number(1i)}}, api.Value{list(3), list(0), list(2), yes, text("a"), number(1i)}, api.OK},
		"of 1 and no nodes":          {[]api.Value{{whole(1)}, nil}, nil, api.ErrShape},
		"of two that are wrong":      {[]api.Value{{whole(1)}, tooGreat, shapeless}, nil, api.ErrLong},
		"of the two, turned about":   {[]api.Value{{whole(1)}, shapeless, tooGreat}, nil, api.ErrShape},
		"of too wide a one":          {[]api.Value{tooWide, shapeless}, nil, api.ErrLong},
		"of 1023 nodes":              {[]api.Value{wide}, append(api.Value{list(1)}, wide...), api.OK},
		"of 1024 nodes":              {[]api.Value{wide, {none}}, nil, api.ErrLong},
		"of 1023 nothings":           {slices.Repeat([]api.Value{{none}}, 1023), many(1023, none, list(1023)), api.OK},
		"of 1024 nothings":           {slices.Repeat([]api.Value{{none}}, 1024), nil, api.ErrLong},
		"of very many nothings":      {slices.Repeat([]api.Value{{none}}, 1<<20), nil, api.ErrLong},
		"of many, the last wrong":    {append(slices.Repeat([]api.Value{{none}}, 1<<16), shapeless), nil, api.ErrShape},
		"of texts, the last wrong":   {[]api.Value{great, great, {{Kind: 9}}}, nil, api.ErrShape},
		"of a text of 4094 bytes":    {[]api.Value{{text(long(4094))}}, api.Value{list(1), text(long(4094))}, api.OK},
		"of a text of 4095 bytes":    {[]api.Value{{text(long(4095))}}, nil, api.ErrLong},
		"of two texts that fit":      {[]api.Value{great, {text(long(93))}}, api.Value{list(2), text(long(4000)), text(long(93))}, api.OK},
		"of two that do not fit":     {[]api.Value{great, {text(long(94))}}, nil, api.ErrLong},
		"of one with a minus nought": {[]api.Value{{number(complex(minus, 0))}}, nil, api.ErrShape},
	} {
		v, e := value.List(x.l)
		isValue(t, "List "+name, v, x.wanted)
		if e != x.e || e == api.OK && value.Check(v) != api.OK {
			t.Errorf("List %s: %d, not %d", name, e, x.e)
		}
	}
}

func TestMembers(t *testing.T) { // P4.4
	for _, x := range []struct {
		v      api.Value
		wanted []api.Value
	}{
		{api.Value{list(0)}, nil},
		{api.Value{list(1), none}, []api.Value{{none}}},
		{api.Value{list(1), list(0)}, []api.Value{{list(0)}}},
		{api.Value{list(1), list(1), list(0)}, []api.Value{{list(1), list(0)}}},
		{api.Value{list(3), whole(1), text("ab"), number(2)}, []api.Value{{whole(1)}, {text("ab")}, {number(2)}}},
		{api.Value{list(3), list(2), yes, list(1), no, list(0), none}, []api.Value{{list(2), yes, list(1), no}, {list(0)}, {none}}},
		{api.Value{list(2), list(0), list(2), list(0), none}, []api.Value{{list(0)}, {list(2), list(0), none}}},
		{many(1023, none, list(1023)), slices.Repeat([]api.Value{{none}}, 1023)},
		{append(many(1023, list(1)), list(0)), []api.Value{append(many(1022, list(1)), list(0))}},
	} {
		l, e := value.Members(x.v)
		if e != api.OK || len(l) != len(x.wanted) {
			t.Errorf("Members of %s: %d members, %d", told(x.v), len(l), e)
			continue
		}
		for i := range l {
			isValue(t, "Members", l[i], x.wanted[i])
		}
	}
}

func TestMembersOfWhatHasNone(t *testing.T) { // P4.4
	for _, n := range []api.Node{none, yes, whole(1), text("ab"), number(1)} {
		if l, e := value.Members(api.Value{n}); e != api.ErrShape || len(l) != 0 {
			t.Errorf("Members of %v: %v, %d", n, l, e)
		}
	}
	for _, w := range wrong {
		if l, e := value.Members(w); e == api.OK || e != value.Check(w) || len(l) != 0 {
			t.Errorf("Members of %s: %d members, %d", told(w), len(l), e)
		}
	}
}
