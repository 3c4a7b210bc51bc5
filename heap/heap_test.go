package heap_test

import (
	"math"
	"runtime"
	"slices"
	"strings"
	"testing"
	"weak"

	"prompter/heap"
)

// filled has the things of the chapter's examples.
func filled() *heap.Heap[string] {
	h := heap.New[string]()
	for i, key := range []int64{5, 3, 5, -1} {
		h.Push(key, "abcd"[i:i+1])
	}
	return h
}

// has fails unless these keys and values are there, in order.
func has(t *testing.T, h *heap.Heap[string], keys []int64, values string) {
	t.Helper()
	if got := h.Keys(); !slices.Equal(got, keys) {
		t.Errorf("Keys: %d, not %d", got, keys)
	}
	if got := strings.Join(h.All(), ""); got != values {
		t.Errorf("All: %q, not %q", got, values)
	}
	if h.Len() != len(keys) {
		t.Errorf("Len: %d, not %d", h.Len(), len(keys))
	}
}

// first fails unless Peek and Pop both tell this.
func first(t *testing.T, h *heap.Heap[string], key int64, v string, number int, is bool) {
	t.Helper()
	for _, x := range []struct {
		name string
		call func() (int64, string, int, bool)
	}{{"Peek", h.Peek}, {"Peek again", h.Peek}, {"Pop", h.Pop}} {
		if k, got, n, ok := x.call(); k != key || got != v || n != number || ok != is {
			t.Errorf("%s: %d, %q, %d, %t, not %d, %q, %d, %t", x.name, k, got, n, ok, key, v, number, is)
		}
	}
}

func push(t *testing.T, h *heap.Heap[string], key int64, v string, number int) {
	t.Helper()
	if got := h.Push(key, v); got != number {
		t.Errorf("Push(%d, %q): %d, not %d", key, v, got, number)
	}
}

func remove(t *testing.T, h *heap.Heap[string], number int, v string, is bool) {
	t.Helper()
	if got, ok := h.Remove(number); got != v || ok != is {
		t.Errorf("Remove(%d): %q, %t, not %q, %t", number, got, ok, v, is)
	}
}

func change(t *testing.T, h *heap.Heap[string], number int, key int64, is bool) {
	t.Helper()
	if got := h.Change(number, key); got != is {
		t.Errorf("Change(%d, %d): %t", number, key, got)
	}
}

func TestNewHasNothing(t *testing.T) { // P3.1, P3.2
	h := heap.New[string]()
	if h == nil {
		t.Fatal("New is nil")
	}
	has(t, h, nil, "")
	first(t, h, 0, "", 0, false)
	has(t, h, nil, "")
	push(t, h, 0, "", 0)
	has(t, h, []int64{0}, "")
	first(t, h, 0, "", 0, true)
}

func TestNumbersGoOn(t *testing.T) { // P3.1
	h := heap.New[string]()
	push(t, h, 5, "a", 0)
	push(t, h, 3, "b", 1)
	push(t, h, 5, "c", 2)
	push(t, h, -1, "d", 3)
	has(t, h, []int64{-1, 3, 5, 5}, "dbac")
	remove(t, h, 3, "d", true) // the greatest number is gone, and isn't given again
	push(t, h, 0, "e", 4)
	for h.Len() > 0 {
		h.Pop()
	}
	push(t, h, 0, "f", 5)
	change(t, h, 5, 1, true)
	push(t, h, 0, "g", 6)
}

func TestFirst(t *testing.T) { // P3.2
	h := filled()
	first(t, h, -1, "d", 3, true)
	has(t, h, []int64{3, 5, 5}, "bac")
	first(t, h, 3, "b", 1, true)
	push(t, h, 3, "e", 4)
	first(t, h, 3, "e", 4, true)
	first(t, h, 5, "a", 0, true)
	first(t, h, 5, "c", 2, true)
	first(t, h, 0, "", 0, false)
	has(t, h, nil, "")
}

func TestKeysAtTheEnds(t *testing.T) { // P3.1, P3.2, P3.3
	const most, least = math.MaxInt64, math.MinInt64
	h := heap.New[string]()
	for i, key := range []int64{most, 0, least, -1, most, 1, least} {
		push(t, h, key, "abcdefg"[i:i+1], i)
	}
	has(t, h, []int64{least, least, -1, 0, 1, most, most}, "cgdbfae")
	change(t, h, 2, most, true)
	change(t, h, 0, least, true)
	has(t, h, []int64{least, least, -1, 0, 1, most, most}, "agdbfce")
	first(t, h, least, "a", 0, true)
	first(t, h, least, "g", 6, true)
}

func TestRemove(t *testing.T) { // P3.3
	h := filled()
	remove(t, h, 0, "a", true)
	has(t, h, []int64{-1, 3, 5}, "dbc")
	remove(t, h, 0, "", false)
	remove(t, h, 3, "d", true)
	has(t, h, []int64{3, 5}, "bc")
	first(t, h, 3, "b", 1, true)
	remove(t, h, 1, "", false) // it was popped
	for _, number := range []int{4, 9, -1, math.MaxInt, math.MinInt} {
		remove(t, h, number, "", false)
	}
	has(t, h, []int64{5}, "c")
	remove(t, h, 2, "c", true)
	remove(t, h, 2, "", false)
	has(t, h, nil, "")
}

func TestChange(t *testing.T) { // P3.3
	h := filled()
	change(t, h, 3, 4, true) // down
	has(t, h, []int64{3, 4, 5, 5}, "bdac")
	change(t, h, 2, -7, true) // up
	has(t, h, []int64{-7, 3, 4, 5}, "cbda")
	change(t, h, 1, 3, true) // to the same one
	has(t, h, []int64{-7, 3, 4, 5}, "cbda")
	change(t, h, 3, 5, true) // behind the one with this key and a lesser number
	has(t, h, []int64{-7, 3, 5, 5}, "cbad")
	change(t, h, 0, 3, true) // ahead of the one with this key and a greater number
	has(t, h, []int64{-7, 3, 3, 5}, "cabd")
	for _, number := range []int{4, 9, -1, math.MaxInt, math.MinInt} {
		change(t, h, number, -100, false)
	}
	has(t, h, []int64{-7, 3, 3, 5}, "cabd")
	first(t, h, -7, "c", 2, true)
	change(t, h, 2, -100, false) // it was popped
	remove(t, h, 0, "a", true)
	change(t, h, 0, -100, false) // it was removed
	has(t, h, []int64{3, 5}, "bd")
}

func TestExamples(t *testing.T) { // P3.1 to P3.4
	h := filled()
	has(t, h, []int64{-1, 3, 5, 5}, "dbac")
	first(t, h, -1, "d", 3, true)
	first(t, h, 3, "b", 1, true)
	push(t, h, 3, "e", 4)
	first(t, h, 3, "e", 4, true)
	remove(t, h, 0, "a", true)
	remove(t, h, 0, "", false)
	remove(t, h, 9, "", false)
	has(t, h, []int64{5}, "c")
	change(t, h, 2, -7, true)
	first(t, h, -7, "c", 2, true)
	first(t, h, 0, "", 0, false)
	push(t, h, 0, "f", 5)
}

func TestCopyGoesItsOwnWay(t *testing.T) { // P3.4
	h := filled()
	c := h.Copy()
	has(t, c, []int64{-1, 3, 5, 5}, "dbac")
	push(t, h, -9, "x", 4)
	change(t, h, 1, 6, true)
	has(t, c, []int64{-1, 3, 5, 5}, "dbac")
	remove(t, c, 3, "d", true)
	change(t, c, 0, 100, true)
	push(t, c, 0, "y", 4)
	has(t, h, []int64{-9, -1, 5, 5, 6}, "xdacb")
	has(t, c, []int64{0, 3, 5, 100}, "ybca")
	for c.Len() > 0 {
		c.Pop()
	}
	has(t, h, []int64{-9, -1, 5, 5, 6}, "xdacb")
	change(t, h, 0, -10, true)
	remove(t, h, 3, "d", true)
	has(t, h, []int64{-10, -9, 5, 6}, "axcb")
}

func TestCopyOfNothing(t *testing.T) { // P3.4
	h := heap.New[string]()
	push(t, h.Copy(), 1, "a", 0)
	has(t, h, nil, "")
	push(t, h, 2, "b", 0)
	first(t, h, 2, "b", 0, true)
	c := h.Copy() // nothing is there, but something was
	has(t, c, nil, "")
	remove(t, c, 0, "", false)
	push(t, c, 3, "c", 1)
	push(t, h, 4, "d", 1)
	has(t, c, []int64{3}, "c")
	has(t, h, []int64{4}, "d")
}

func TestAnswersAreNewMemory(t *testing.T) { // P3.4
	h := filled()
	h.Push(9, "e") // behind it the heap's own list has spare room
	keys, values := h.Keys(), h.All()
	otherKeys, otherValues := h.Keys(), h.All()
	for i := range keys {
		keys[i], values[i] = 77, "z"
	}
	_, _ = append(keys, 1), append(values, "z")
	if !slices.Equal(otherKeys, []int64{-1, 3, 5, 5, 9}) || strings.Join(otherValues, "") != "dbace" {
		t.Errorf("two answers share memory: %d, %q", otherKeys, otherValues)
	}
	has(t, h, []int64{-1, 3, 5, 5, 9}, "dbace")
	push(t, h, -5, "f", 5)
	if keys[0] != 77 || otherKeys[0] != -1 || otherValues[0] != "d" {
		t.Error("an answer has changed behind a push")
	}
}

func TestHeapThatNobodyMade(t *testing.T) { // P3.5
	for _, h := range []*heap.Heap[string]{nil, {}, new(heap.Heap[string])} {
		for range 2 {
			push(t, h, 1, "a", -1)
			has(t, h, nil, "")
			first(t, h, 0, "", 0, false)
			remove(t, h, 0, "", false)
			remove(t, h, -1, "", false)
			change(t, h, 0, 5, false)
			change(t, h, -1, 5, false)
			if h.Copy() != nil {
				t.Error("Copy isn't nil")
			}
		}
	}
}

// entry is a value that has parts.
type entry struct {
	names []string
	at    [2]int
}

func TestAnyType(t *testing.T) { // P3.1 to P3.5
	h := heap.New[*entry]()
	one, two := &entry{at: [2]int{1, 1}}, &entry{at: [2]int{2, 2}}
	h.Push(2, two)
	h.Push(1, one)
	h.Push(3, nil)
	if _, v, _, is := h.Copy().Pop(); v != one || !is {
		t.Errorf("Pop: %v, %t", v, is)
	}
	if l := h.All(); len(l) != 3 || l[0] != one || l[1] != two || l[2] != nil {
		t.Errorf("All: %v", l)
	}
	if v, is := h.Remove(2); v != nil || !is {
		t.Errorf("Remove of a thing without a value: %v, %t", v, is)
	}
	if v, is := h.Remove(2); v != nil || is {
		t.Errorf("Remove again: %v, %t", v, is)
	}
	calls := heap.New[func() int]()
	calls.Push(1, func() int { return 8 })
	if _, v, _, is := calls.Pop(); !is || v() != 8 {
		t.Error("Pop of a function")
	}
	if _, v, _, is := calls.Pop(); is || v != nil {
		t.Error("Pop of no function")
	}
	parts := heap.New[entry]()
	parts.Push(1, entry{[]string{"a"}, [2]int{3, 4}})
	if v, is := parts.Remove(0); !is || v.at != [2]int{3, 4} || !slices.Equal(v.names, []string{"a"}) {
		t.Errorf("Remove: %v, %t", v, is)
	}
	if v, is := parts.Remove(0); is || v.at != [2]int{} || v.names != nil {
		t.Errorf("Remove again: %v, %t", v, is)
	}
	nothing := heap.New[struct{}]()
	if nothing.Push(4, struct{}{}) != 0 || nothing.Push(2, struct{}{}) != 1 || len(nothing.All()) != 2 || !slices.Equal(nothing.Keys(), []int64{2, 4}) {
		t.Error("things without values")
	}
}

func TestHeapsKnowNothingOfOneAnother(t *testing.T) { // R3
	a, b := heap.New[string](), heap.New[string]()
	push(t, a, 1, "a", 0)
	push(t, a, 2, "b", 1)
	push(t, b, 3, "c", 0)
	remove(t, b, 1, "", false)
	has(t, a, []int64{1, 2}, "ab")
	has(t, b, []int64{3}, "c")
}

// emptied has had a thing with a great value, which is gone in the way that is handed in.
func emptied(h *heap.Heap[*entry], take func(h *heap.Heap[*entry], number int)) weak.Pointer[entry] {
	v := &entry{names: make([]string, 100)}
	take(h, h.Push(-1, v))
	return weak.Make(v)
}

func TestNothingIsKeptOfWhatIsGone(t *testing.T) { // P3.2, P3.3
	for name, take := range map[string]func(h *heap.Heap[*entry], number int){
		"Pop":    func(h *heap.Heap[*entry], number int) { h.Pop() },
		"Remove": func(h *heap.Heap[*entry], number int) { h.Remove(number) },
	} {
		h := heap.New[*entry]()
		for key := range int64(5) {
			h.Push(key, nil)
		}
		gone := emptied(h, take)
		runtime.GC()
		if gone.Value() != nil {
			t.Errorf("%s: the heap keeps the value", name)
		}
		if h.Len() != 5 {
			t.Errorf("%s: %d are left", name, h.Len())
		}
	}
}
