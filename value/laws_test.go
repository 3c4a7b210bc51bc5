package value_test

import (
	"slices"
	"testing"

	"prompter/api"
	"prompter/value"
)

// draws are numbers that a short rule strews.
type draws uint64

func (d *draws) below(n int) int {
	*d = 6364136223846793005**d + 1442695040888963407
	return int(*d>>33) % n
}

// leaf is a value without members; there are so few that many are the same.
func (d *draws) leaf() api.Value {
	n := []api.Node{none, no, yes, whole(-1), whole(3), text(""), text("a"), text("ab"), number(0), number(1i), number(-1)}
	return api.Value{n[d.below(len(n))]}
}

// members are a few values, with lists in one another down to that depth.
func (d *draws) members(depth int) []api.Value {
	l := make([]api.Value, d.below(4))
	for i := range l {
		l[i] = d.leaf()
		if depth > 0 && d.below(3) == 0 {
			l[i] = put(d.members(depth - 1))
		}
	}
	return l
}

// put puts members together, as the chapter says it.
func put(l []api.Value) api.Value {
	return append(api.Value{list(len(l))}, slices.Concat(l...)...)
}

func TestListAndMembers(t *testing.T) { // P4.7
	d := draws(4)
	for range 20000 {
		members := d.members(4)
		v, e := value.List(members)
		if e != api.OK {
			t.Fatalf("List(%v): %d", members, e)
		}
		hold(t, v)
		isValue(t, "List", v, put(members))
		back, e := value.Members(v)
		if e != api.OK || len(back) != len(members) {
			t.Fatalf("Members of %s: %d members, %d", told(v), len(back), e)
		}
		for i := range back {
			isValue(t, "Members", back[i], members[i])
		}
		again, e := value.List(back)
		if e != api.OK || !value.Same(again, v) {
			t.Fatalf("List of the members of %s: %s, %d", told(v), told(again), e)
		}
	}
}

// TestChanged checks right values in which something was changed, left out or put in.
func TestChanged(t *testing.T) { // P4.1
	d := draws(1)
	for range 50000 {
		v := put(d.members(3))
		at := d.below(len(v))
		switch d.below(6) {
		case 0:
			v[at].Kind = byte(d.below(7))
		case 1:
			v[at].Kids += d.below(5) - 2
		case 2:
			v[at] = d.leaf()[0]
		case 3:
			v = slices.Delete(v, at, at+1)
		case 4:
			v = slices.Insert(v, at, list(d.below(3)))
		default:
			v[at].Int = int64(d.below(4) - 1)
		}
		hold(t, v)
	}
}

// ahead is what the chapter asks of Order, of right values, node by node from the front.
func ahead(a, b api.Value) int {
	for i := range min(len(a), len(b)) {
		x, y := a[i], b[i]
		less := []bool{x.Kind < y.Kind, x.Kids < y.Kids, x.Int < y.Int, x.Text < y.Text, real(x.Num) < real(y.Num), imag(x.Num) < imag(y.Num)}
		more := []bool{x.Kind > y.Kind, x.Kids > y.Kids, x.Int > y.Int, x.Text > y.Text, real(x.Num) > real(y.Num), imag(x.Num) > imag(y.Num)}
		for k := range less {
			if less[k] {
				return -1
			}
			if more[k] {
				return 1
			}
		}
	}
	return 0
}

func TestOrderIsAnOrder(t *testing.T) { // P4.2, P4.7
	d := draws(2)
	l := slices.Clone(rising)
	for range 60 {
		l = append(l, put(d.members(2)), d.leaf())
	}
	for _, a := range l {
		for _, b := range l {
			way := value.Order(a, b)
			if way != ahead(a, b) {
				t.Errorf("Order(%s, %s): %d", told(a), told(b), way)
			}
			if same := slices.Equal(a, b); (way == 0) != same || value.Same(a, b) != same {
				t.Errorf("Order(%s, %s): %d, Same %t", told(a), told(b), way, value.Same(a, b))
			}
			if value.Order(b, a) != -way {
				t.Errorf("Order(%s, %s): %d, turned round %d", told(a), told(b), way, value.Order(b, a))
			}
		}
	}
	slices.SortFunc(l, value.Order)
	for i, a := range l { // of what is sorted none is ahead of one in front of it
		for _, b := range l[:i] {
			if value.Order(a, b) < 0 {
				t.Errorf("%s behind %s", told(a), told(b))
			}
		}
	}
}

// roomy is v with spare room behind it, in which there is something.
func roomy(v api.Value) api.Value {
	long := append(slices.Clone(v), slices.Repeat(api.Value{whole(77)}, 20)...)
	return long[:len(v)]
}

// untouched fails unless v has what it had, and its spare room too.
func untouched(t *testing.T, name string, v, had api.Value) {
	t.Helper()
	isValue(t, name, v, had)
	for _, n := range v[len(v) : len(v)+20] {
		if !sameBits(n, whole(77)) {
			t.Errorf("%s wrote into the spare room: %v", name, n)
		}
	}
}

// spoil writes into all that v has, its spare room too.
func spoil(v api.Value) {
	v = v[:cap(v)]
	for i := range v {
		v[i] = api.Node{Kind: 9, Text: "spoilt"}
	}
}

func TestListSharesNothing(t *testing.T) { // P4.6
	had := []api.Value{{whole(1)}, {list(2), text("a"), none}, {list(0)}}
	given := make([]api.Value, 3, 9)
	for i, m := range had {
		given[i] = roomy(m)
	}
	v, e := value.List(given)
	if e != api.OK {
		t.Fatalf("List: %d", e)
	}
	again, _ := value.List(given)
	spoil(v)
	isValue(t, "another List", again, put(had))
	for i, m := range given {
		untouched(t, "List", m, had[i])
	}
	for _, m := range given[3:9] {
		if m != nil {
			t.Errorf("List wrote into the spare room: %v", m)
		}
	}
	for _, m := range given {
		spoil(m)
	}
	isValue(t, "List of what was spoilt", again, put(had))
}

func TestMembersShareNothing(t *testing.T) { // P4.6
	had := []api.Value{{whole(1)}, {list(2), text("a"), none}, {list(0)}, {yes}}
	given := roomy(put(had))
	for spoilt := range had {
		l, e := value.Members(given)
		if e != api.OK || len(l) != len(had) {
			t.Fatalf("Members: %v, %d", l, e)
		}
		spoil(append(l[spoilt], none))
		spoil(l[spoilt])
		for i, m := range l {
			if i != spoilt {
				isValue(t, "another member", m, had[i])
			}
		}
		untouched(t, "Members", given, put(had))
	}
	l, _ := value.Members(given)
	spoil(given)
	for i, m := range l {
		isValue(t, "a member of what was spoilt", m, had[i])
	}
}

func TestMakersShareNothing(t *testing.T) { // P4.6
	for name, do := range map[string]func() api.Value{
		"None": value.None,
		"Bool": func() api.Value { return value.Bool(true) },
		"Int":  func() api.Value { return value.Int(5) },
		"Text": func() api.Value { v, _ := value.Text("ab"); return v },
		"Num":  func() api.Value { v, _ := value.Num(2i); return v },
		"List": func() api.Value { v, _ := value.List(nil); return v },
	} {
		had := slices.Clone(do())
		spoil(do())
		isValue(t, name, do(), had)
	}
}

func TestOthersOnlyRead(t *testing.T) { // P4.6
	for _, v := range slices.Concat(rising, wrong) {
		a, b := roomy(v), roomy(v)
		value.Check(a)
		value.Size(a)
		value.Same(a, b)
		value.Order(a, b)
		value.Members(a)
		value.List([]api.Value{a, b})
		untouched(t, "a call", a, v)
		untouched(t, "a call", b, v)
	}
}
