package check_test

import (
	"fmt"
	"slices"
	"strings"
	"testing"

	"prompter/api"
	"prompter/check"
	"prompter/parse"
)

// sources are put together of these: how many twigs they have, and what there is of so many.
type sources struct {
	exprs, stmts, rows map[int][]string
}

// each is told of all pairs of what has so many twigs together.
func each(a, b map[int][]string, twigs int, tell func(x, y string)) {
	for n, l := range a {
		for _, x := range l {
			for _, y := range b[twigs-n] {
				tell(x, y)
			}
		}
	}
}

// shortSources are all sources of some forms with the names a and b; rows are the statements of blocks.
func shortSources(twigs int) sources {
	s := sources{map[int][]string{}, map[int][]string{}, map[int][]string{0: {""}}}
	for n := 1; n <= twigs; n++ {
		s.exprs[n] = s.exprsOf(n)
		s.stmts[n] = s.stmtsOf(n)
		each(s.stmts, s.rows, n, func(x, y string) { s.rows[n] = append(s.rows[n], x+" "+y) })
	}
	return s
}

func (s sources) exprsOf(n int) (l []string) {
	if n == 1 {
		return []string{"a", "b", "1"}
	}
	for _, x := range s.rows[n-2] {
		l = append(l, "fork { "+x+"}")
	}
	each(s.exprs, s.exprs, n-1, func(x, y string) { l = append(l, "["+x+", "+y+"]") })
	return l
}

func (s sources) stmtsOf(n int) (l []string) {
	for _, x := range s.exprs[n-1] {
		l = append(l, "let a = "+x, "a = "+x, "let b = "+x, "do "+x)
	}
	each(s.exprs, s.rows, n-2, func(x, y string) { l = append(l, "while "+x+" { "+y+"}") })
	for m, conditions := range s.exprs {
		for _, c := range conditions {
			each(s.rows, s.rows, n-3-m, func(x, y string) { l = append(l, "if "+c+" { "+x+"} else { "+y+"}") })
		}
	}
	return l
}

// TestAllShort holds all short flows of some forms.
func TestAllShort(t *testing.T) { // P11.1, P11.2, P11.3
	s := shortSources(7)
	told := map[api.Errno]int{}
	for params, most := range map[string]int{"": 7, "a": 6, "b, a": 6, "a, a": 4, "a, b, a": 4} {
		for n := range most + 1 {
			for _, row := range s.rows[n] {
				x := of(t, "flow f("+params+") { "+row+"}")
				hold(t, x)
				_, e := check.Names(x)
				told[e]++
			}
		}
	}
	for _, e := range []api.Errno{api.OK, api.ErrName, api.ErrTwice} {
		if told[e] < 1000 {
			t.Errorf("there were too few flows: %v", told)
		}
	}
}

// draws are numbers that a short rule strews.
type draws uint64

func (d *draws) below(n int) int {
	*d = 6364136223846793005**d + 1442695040888963407
	return int(*d>>33) % n
}

// strewn is a strewn flow: words of its own are taken from those that are seen, but where it draws others.
type strewn struct {
	draws
	seen []string
	wild int // one word of so many is any one
}

// word is a word that is seen, most often.
func (s *strewn) word() string {
	if len(s.seen) == 0 || s.below(s.wild) == 0 {
		return fmt.Sprint("w", s.below(9))
	}
	return s.seen[s.below(len(s.seen))]
}

// fresh is a word that is not seen, most often.
func (s *strewn) fresh() string {
	for {
		w := fmt.Sprint("w", s.below(40))
		if !slices.Contains(s.seen, w) || s.below(s.wild) == 0 {
			return w
		}
	}
}

func (s *strewn) expr(deep int) string {
	if deep <= 0 {
		return []string{s.word(), s.word(), "1", "take " + s.fresh(), "version", "call " + s.fresh() + "()"}[s.below(6)]
	}
	switch x := func() string { return s.expr(deep - 1) }; s.below(9) {
	case 0:
		return x() + " + " + s.word()
	case 1:
		return "[" + x() + ", " + x() + "]"
	case 2:
		return "call " + s.fresh() + "(" + x() + ", " + x() + ")"
	case 3:
		return "child " + s.word() + "(" + x() + ")"
	case 4:
		return "not " + s.word()
	case 5, 6:
		return "fork " + s.block(deep-1)
	}
	return s.expr(0)
}

func (s *strewn) block(deep int) string {
	seen := len(s.seen)
	var l []string
	for range s.below(5) {
		l = append(l, s.stmt(deep-1))
	}
	s.seen = s.seen[:seen]
	return "{ " + strings.Join(l, " ") + " }"
}

func (s *strewn) stmt(deep int) string {
	switch s.below(7) {
	case 0, 1, 2:
		w := s.fresh()
		value := s.expr(deep)
		s.seen = append(s.seen, w)
		return "let " + w + " = " + value
	case 3:
		return s.word() + " = " + s.expr(deep)
	case 4:
		return "if (" + s.expr(deep) + ") " + s.block(deep) + " else " + s.block(deep)
	case 5:
		return "while (" + s.expr(deep) + ") " + s.block(deep)
	}
	return "return " + s.expr(deep)
}

func (s *strewn) flow(deep int) string {
	s.seen = nil
	for range s.below(4) {
		s.seen = append(s.seen, s.fresh())
	}
	return "flow w1(" + strings.Join(s.seen, ", ") + ") " + s.block(deep)
}

// flows are strewn flows, those that are read.
func flows(times, wild int) (all []api.Tree) {
	s := strewn{draws: 11, wild: wild}
	for len(all) < times {
		if x, _, e := parse.Flow(s.flow(2 + s.below(5))); e == api.OK {
			all = append(all, x)
		}
	}
	return all
}

// rights are those of the flows whose names are right.
func rights(t *testing.T, times int) (all []api.Tree) {
	t.Helper()
	for _, x := range flows(times, 1000) {
		if _, e := check.Names(x); e == api.OK && len(x) > 5 {
			all = append(all, x)
		}
	}
	if len(all) < times/4 {
		t.Fatalf("there are too few right flows: %d of %d", len(all), times)
	}
	return all
}

// TestStrewn holds strewn flows, right and wrong ones, and such of which a twig was changed.
func TestStrewn(t *testing.T) { // P11.1, P11.2, P11.3
	told := map[api.Errno]int{}
	d := draws(5)
	for _, wild := range []int{3, 20, 1000} {
		for _, x := range flows(3000, wild) {
			hold(t, x)
			_, e := check.Names(x)
			told[e]++
			y := slices.Clone(x)
			at := d.below(len(y))
			switch d.below(4) {
			case 0:
				y[at].Op = byte(d.below(60))
			case 1:
				y[at].Kids += d.below(3) - 1
			case 2:
				y[at].Text = y[d.below(len(y))].Text
			default:
				y = y[:at]
			}
			hold(t, y)
			_, e = check.Names(y)
			told[e]++
		}
	}
	for _, e := range []api.Errno{api.OK, api.ErrLong, api.ErrShape, api.ErrName, api.ErrTwice} {
		if told[e] < 40 {
			t.Errorf("there were too few flows: %v", told)
		}
	}
}

// TestOneSlotEach holds the slots of variables: all of them, from 0 on, and each once.
func TestOneSlotEach(t *testing.T) { // P11.5
	for _, x := range rights(t, 3000) {
		l, _, _ := check.Slots(x)
		var made []int
		for i, y := range x {
			if makes(y.Op) {
				made = append(made, l[i])
			}
		}
		slices.Sort(made)
		for i, slot := range made {
			if slot != i {
				t.Fatalf("%s: the variables' slots %v", short(x), made)
			}
		}
		for i, y := range x {
			if means(y.Op) && (l[i] < 0 || l[i] >= len(made)) {
				t.Fatalf("%s: the slot %d of %d", short(x), l[i], len(made))
			}
		}
	}
}

// renamed is x with other words; all of them where all is true, else those alone that make or mean a variable.
func renamed(x api.Tree, all bool, to func(s string) string) api.Tree {
	y := slices.Clone(x)
	for i, z := range x {
		other := z.Op == api.OFlow || z.Op == api.OCall || z.Op == api.OChild || z.Op == api.OTake
		if makes(z.Op) || means(z.Op) || all && other {
			y[i].Text = to(z.Text)
		}
	}
	return y
}

// TestOtherWords holds flows whose variables got other words.
func TestOtherWords(t *testing.T) { // P11.5
	turned := func(s string) string { // the words are w0 to w39: one goes to another one of them
		n := 0
		fmt.Sscanf(s, "w%d", &n)
		return fmt.Sprint("w", (n*7+3)%40)
	}
	longer := func(s string) string { return "lets_" + s }
	longest := func(s string) string { return strings.Repeat("z", 24-len(s)) + s }
	for _, x := range rights(t, 2000) {
		want, _, _ := check.Slots(x)
		for _, to := range []func(string) string{turned, longer, longest} {
			for _, all := range []bool{true, false} {
				y := renamed(x, all, to)
				l, at, e := check.Slots(y)
				if !slices.Equal(l, want) || at != 0 || e != api.OK {
					t.Fatalf("Slots(%s): %v, %d, %d, not %v", short(y), l, at, e, want)
				}
				hold(t, y)
			}
		}
	}
}

// roomy is x with spare room behind it, in which there is something.
func roomy(x api.Tree) api.Tree {
	long := append(slices.Clone(x), slices.Repeat(api.Tree{spare}, 20)...)
	return long[:len(x)]
}

// spare is what stands in the spare room.
var spare = api.Twig{Op: 99, Kids: 77, Text: "spare"}

func TestOnlyRead(t *testing.T) { // P11.4
	for _, had := range slices.Concat(flows(500, 3), flows(500, 1000)) {
		x := roomy(had)
		check.Names(x)
		check.Slots(x)
		check.Asks(x)
		if !slices.Equal(x, had) {
			t.Fatalf("%s was changed: %s", short(had), short(x))
		}
		for _, y := range x[len(x):cap(x)] {
			if y != spare && y != (api.Twig{}) {
				t.Fatalf("the spare room behind %s: %v", short(had), y)
			}
		}
	}
}

// fill puts x everywhere into l, into its spare room too.
func fill[T any](l []T, x T) {
	l = l[:cap(l)]
	for i := range l {
		l[i] = x
	}
}

func TestAnswersShareNothing(t *testing.T) { // P11.4
	x := of(t, "flow f(p) { let a = call g(call g(p), call b(), call a()) do [child g(), child g(), child b(), take g, take b, take b, take a, a] }")
	want, _, _ := plain(x)
	first, _, _ := check.Slots(x)
	second, _, _ := check.Slots(x)
	fill(first, 77)
	if !slices.Equal(second, want) {
		t.Errorf("Slots: %v, not %v, once what another call told was spoilt", second, want)
	}
	lists := func() [3][]string {
		calls, children, signals, _ := check.Asks(x)
		return [...][]string{calls, children, signals}
	}
	asks := [...][]string{plainAsks(x, api.OCall), plainAsks(x, api.OChild), plainAsks(x, api.OTake)}
	for i := range asks {
		l, others := lists(), lists()
		fill(l[i], "spoilt")
		for j := range asks {
			if j != i && !slices.Equal(l[j], asks[j]) || !slices.Equal(others[j], asks[j]) {
				t.Errorf("Asks: %q, %q, not %q, once list %d was spoilt", l[j], others[j], asks[j], i)
			}
		}
	}
	l, slots := lists(), slices.Clone(second)
	fill(x, spare)
	if !slices.Equal(second, slots) || !slices.EqualFunc(l[:], asks[:], slices.Equal) {
		t.Errorf("Slots and Asks: %v, %q, once what was handed in was spoilt", second, l)
	}
}

// TestAgain holds that calls know nothing of those ahead of them.
func TestAgain(t *testing.T) { // P11.1 to P11.3
	right, wrong := of(t, "flow f(a) { let b = a return call g(b) }"), of(t, "flow f(b) { let a = fork { let c = a } }")
	for range 3 {
		hold(t, right)
		hold(t, wrong)
		isWrong(t, nil, 0, api.ErrShape)
	}
}
