package heap_test

import (
	"cmp"
	"slices"
	"testing"

	"prompter/heap"
)

// item is a thing as a plain list keeps it.
type item struct {
	key    int64
	number int
	value  string
}

// list does what the chapter asks of a heap, by looking at all things each time.
type list struct {
	items  []item // in order
	pushed int
}

func (l *list) sort() {
	slices.SortFunc(l.items, func(a, b item) int {
		return cmp.Or(cmp.Compare(a.key, b.key), cmp.Compare(a.number, b.number))
	})
}

func (l *list) push(key int64, v string) int {
	l.items = append(l.items, item{key, l.pushed, v})
	l.sort()
	l.pushed++
	return l.pushed - 1
}

func (l *list) find(number int) int {
	return slices.IndexFunc(l.items, func(x item) bool { return x.number == number })
}

func (l *list) remove(number int) (string, bool) {
	i := l.find(number)
	if i < 0 {
		return "", false
	}
	v := l.items[i].value
	l.items = slices.Delete(l.items, i, i+1)
	return v, true
}

func (l *list) change(number int, key int64) bool {
	i := l.find(number)
	if i < 0 {
		return false
	}
	l.items[i].key = key
	l.sort()
	return true
}

func (l *list) first() (key int64, v string, number int, is bool) {
	if len(l.items) == 0 {
		return 0, "", 0, false
	}
	x := l.items[0]
	return x.key, x.value, x.number, true
}

// copy is another one that goes its own way.
func (l *list) copy() *list {
	return &list{slices.Clone(l.items), l.pushed}
}

// agree fails unless the heap has what the list has.
func agree(t *testing.T, h *heap.Heap[string], l *list) {
	t.Helper()
	keys, values := h.Keys(), h.All()
	if h.Len() != len(l.items) || len(keys) != len(l.items) || len(values) != len(l.items) {
		t.Fatalf("%d things, %d keys, %d values, not %d", h.Len(), len(keys), len(values), len(l.items))
	}
	for i, x := range l.items {
		if keys[i] != x.key || values[i] != x.value {
			t.Fatalf("place %d: %d, %q, not %d, %q", i, keys[i], values[i], x.key, x.value)
		}
	}
	key, v, number, is := h.Peek()
	if k, w, n, ok := l.first(); key != k || v != w || number != n || is != ok {
		t.Fatalf("Peek: %d, %q, %d, %t, not %d, %q, %d, %t", key, v, number, is, k, w, n, ok)
	}
}

// drain pops all: it must be what Keys and All told, and rise in order.
func drain(t *testing.T, h *heap.Heap[string], l *list) {
	t.Helper()
	keys, values := h.Keys(), h.All()
	before, numberBefore := int64(0), 0
	for i := range keys {
		key, v, number, is := h.Pop()
		if !is || key != keys[i] || v != values[i] || number != l.items[i].number {
			t.Fatalf("popped in place %d: %d, %q, %d, %t", i, key, v, number, is)
		}
		if i > 0 && (key < before || key == before && number <= numberBefore) {
			t.Fatalf("place %d doesn't rise: %d, %d behind %d, %d", i, key, number, before, numberBefore)
		}
		before, numberBefore = key, number
	}
	if _, _, _, is := h.Pop(); is || h.Len() != 0 {
		t.Fatal("something is left")
	}
}

// draws are numbers that a short rule strews.
type draws uint64

func (d *draws) below(n int) int {
	*d = 6364136223846793005**d + 1442695040888963407
	return int(*d>>33) % n
}

// step does one thing to both, strewn; keys are so few that many are the same.
func step(t *testing.T, h *heap.Heap[string], l *list, d *draws, spread int) {
	t.Helper()
	key := int64(d.below(spread) - spread/2)
	number := d.below(l.pushed+3) - 1
	switch d.below(8) {
	case 0, 1, 2:
		v := string(rune('a' + d.below(26)))
		if got, wanted := h.Push(key, v), l.push(key, v); got != wanted {
			t.Fatalf("Push(%d): %d, not %d", key, got, wanted)
		}
	case 3, 4:
		k, v, n, is := l.first()
		if key, got, number, ok := h.Pop(); key != k || got != v || number != n || ok != is {
			t.Fatalf("Pop: %d, %q, %d, %t, not %d, %q, %d, %t", key, got, number, ok, k, v, n, is)
		}
		l.remove(n)
	case 5:
		v, is := l.remove(number)
		if got, ok := h.Remove(number); got != v || ok != is {
			t.Fatalf("Remove(%d): %q, %t, not %q, %t", number, got, ok, v, is)
		}
	default:
		if got, wanted := h.Change(number, key), l.change(number, key); got != wanted {
			t.Fatalf("Change(%d, %d): %t", number, key, got)
		}
	}
}

func TestAgainstAPlainList(t *testing.T) { // P3.1 to P3.4, P3.6
	for round := range 40 {
		d := draws(round)
		h, l := heap.New[string](), &list{}
		for range d.below(60) {
			key := int64(d.below(20))
			h.Push(key, "x")
			l.push(key, "x")
		}
		for range 200 {
			step(t, h, l, &d, 5+round*3)
			agree(t, h, l)
		}
		c, m := h.Copy(), l.copy()
		agree(t, c, m)
		for range 60 { // each goes its own way, and answers as the list of its own
			step(t, h, l, &d, 5)
			step(t, c, m, &d, 50)
			agree(t, h, l)
			agree(t, c, m)
		}
		drain(t, h, l)
		agree(t, c, m)
		drain(t, c, m)
	}
}

func TestCopyAnswersTheSame(t *testing.T) { // P3.4
	d := draws(3)
	h, l := heap.New[string](), &list{}
	for range 300 {
		step(t, h, l, &d, 9)
	}
	c, m, e := h.Copy(), l.copy(), d
	for range 300 {
		step(t, h, l, &d, 9)
		step(t, c, m, &e, 9)
	}
	agree(t, h, l)
	agree(t, c, l)
}

func TestPushedComesBehindThoseWithItsKey(t *testing.T) { // P3.6
	h := heap.New[int]()
	for n := range 300 {
		key := int64(n*7%5) - 2
		at := 0
		for _, k := range h.Keys() {
			if k <= key {
				at++
			}
		}
		h.Push(key, n)
		if l := h.All(); l[at] != n {
			t.Fatalf("%d with the key %d isn't in place %d: %d", n, key, at, l)
		}
	}
}

func TestRemoveLeavesTheOthers(t *testing.T) { // P3.6
	const many = 60
	h := heap.New[int]()
	d := draws(8)
	for n := range many {
		h.Push(int64(d.below(10)), n)
	}
	for n := range many {
		c := h.Copy()
		wanted := slices.DeleteFunc(h.All(), func(v int) bool { return v == n })
		if v, is := c.Remove(n); v != n || !is {
			t.Errorf("Remove(%d): %d, %t", n, v, is)
		}
		if got := c.All(); !slices.Equal(got, wanted) {
			t.Errorf("behind Remove(%d): %d, not %d", n, got, wanted)
		}
		for _, v := range wanted {
			if _, got, number, is := c.Pop(); got != v || number != v || !is {
				t.Fatalf("behind Remove(%d): popped %d, %d, %t, not %d", n, got, number, is, v)
			}
		}
	}
}

// TestMany has so many things that a heap which goes through all of them at each call would take minutes.
func TestMany(t *testing.T) { // P3.6
	const many = 300000
	for name, keyOf := range map[string]func(n int) int64{
		"rising":   func(n int) int64 { return int64(n) },
		"falling":  func(n int) int64 { return int64(-n) },
		"the same": func(int) int64 { return 4 },
	} {
		h := heap.New[int]()
		for n := range many {
			h.Push(keyOf(n), n)
		}
		for n := 0; n < many; n += 3 {
			h.Remove(n)
			h.Change(n+1, keyOf(many-1-n))
		}
		keys, all := h.Keys(), h.All()
		for i := range keys {
			if key, v, number, is := h.Pop(); key != keys[i] || v != all[i] || number != v || !is {
				t.Fatalf("%s: popped in place %d: %d, %d, %d, %t", name, i, key, v, number, is)
			}
		}
		if !slices.IsSorted(keys) || h.Len() != 0 || len(keys) != many/3*2 {
			t.Errorf("%s: %d keys, %d left", name, len(keys), h.Len())
		}
	}
}
