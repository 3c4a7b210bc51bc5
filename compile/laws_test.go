package compile_test

import (
	"fmt"
	"slices"
	"strings"
	"testing"

	"prompter/api"
	"prompter/check"
	"prompter/compile"
	"prompter/parse"
	"prompter/show"
)

// sources are put together of these: how many twigs they have, and what there is of so many.
type sources struct {
	exprs, stmts, rows map[int][]string
}

// each is told of all pairs of what has so many twigs together.
func each(a, b map[int][]string, twigs int, tell func(x, y string)) {
	for n := range twigs + 1 {
		for _, x := range a[n] {
			for _, y := range b[twigs-n] {
				tell(x, y)
			}
		}
	}
}

// shortSources are all sources of some forms with the name a; rows are the statements of blocks.
func shortSources(twigs int) sources {
	s := sources{map[int][]string{}, map[int][]string{}, map[int][]string{0: {""}}}
	for n := 1; n <= twigs; n++ {
		s.exprs[n] = s.exprsOf(n)
		s.stmts[n] = s.stmtsOf(n)
		each(s.stmts, s.rows, n, func(x, y string) { s.rows[n] = append(s.rows[n], x+" "+y) })
	}
	return s
}

func (s sources) exprsOf(n int) (l []string) {
	if n == 1 {
		return []string{"a", "1"}
	}
	for _, x := range s.rows[n-2] {
		l = append(l, "fork { "+x+"}")
	}
	for _, x := range s.exprs[n-1] {
		l = append(l, "(not "+x+")", "[ "+x+"]")
	}
	each(s.exprs, s.exprs, n-1, func(x, y string) {
		l = append(l, "("+x+" or "+y+")", "("+x+" and "+y+")", "call g("+x+", "+y+")")
	})
	return l
}

func (s sources) stmtsOf(n int) (l []string) {
	for _, x := range s.exprs[n-1] {
		l = append(l, "let b = "+x, "return "+x, "do "+x)
	}
	each(s.exprs, s.rows, n-2, func(x, y string) {
		l = append(l, "while "+x+" { "+y+"}", "if "+x+" { "+y+"}")
	})
	for m := range n {
		for _, c := range s.exprs[m] {
			each(s.rows, s.rows, n-3-m, func(x, y string) { l = append(l, "if "+c+" { "+x+"} else { "+y+"}") })
		}
	}
	return l
}

// TestAllShort holds all short flows of some forms.
func TestAllShort(t *testing.T) { // P15.1, P15.3
	s := shortSources(7)
	right := 0
	for params, most := range map[string]int{"": 5, "a": 7, "b, a": 5} {
		for n := range most + 1 {
			for _, row := range s.rows[n] {
				x := of(t, "flow f("+params+") { "+row+"}")
				hold(t, x)
				if _, e := check.Names(x); e == api.OK {
					right++
				}
			}
		}
	}
	if right < 20000 {
		t.Errorf("there were too few flows: %d", right)
	}
}

// draws are numbers that a short rule strews.
type draws uint64

func (d *draws) below(n int) int {
	*d = 6364136223846793005**d + 1442695040888963407
	return int(*d>>33) % n
}

// strewn is a strewn flow whose names are right, but where it draws others.
type strewn struct {
	draws
	seen []string
	made int
	left int // how many expressions may still be made of others
	wild int // one word of so many is any one
}

// word is a word that is seen, most often.
func (s *strewn) word() string {
	if s.below(s.wild) == 0 {
		return "w"
	}
	if len(s.seen) == 0 {
		return "1"
	}
	return s.seen[s.below(len(s.seen))]
}

func (s *strewn) expr(deep int) string {
	s.left--
	if deep <= 0 || s.left < 0 {
		return []string{s.word(), s.word(), fmt.Sprint(s.below(99)), "take s" + fmt.Sprint(s.below(9)), "version", "call g()", "\"\\n\"", "true", "none", "[]"}[s.below(10)]
	}
	x := func() string { return s.expr(deep - 1 - s.below(2)) }
	switch s.below(8) {
	case 0, 1:
		sign := []string{"or", "and", "==", "!=", "<", "<=", "+", "-", "*", "/", "%"}[s.below(11)]
		return "(" + x() + " " + sign + " " + x() + ")"
	case 2:
		return "num(" + x() + ", " + x() + ")[" + x() + "]"
	case 3:
		l := make([]string, s.below(5))
		for i := range l {
			l[i] = x()
		}
		return []string{"call g(", "child g("}[s.below(2)] + strings.Join(l, ", ") + ")"
	case 4:
		return "[" + x() + ", " + x() + ", " + x() + "]"
	case 5:
		return []string{"not (", "- (", "len(", "re(", "im(", "conj(", "timer(", "await (", "settle ("}[s.below(9)] + x() + ")"
	}
	return "fork " + s.block(deep-1)
}

func (s *strewn) block(deep int) string {
	seen := len(s.seen)
	var l []string
	for range s.below(5) {
		if s.left > 0 {
			l = append(l, s.stmt(deep-1))
		}
	}
	s.seen = s.seen[:seen]
	return "{ " + strings.Join(l, " ") + " }"
}

func (s *strewn) stmt(deep int) string {
	switch s.below(8) {
	case 0, 1:
		s.made++
		w := fmt.Sprint("v", s.made)
		value := s.expr(deep)
		s.seen = append(s.seen, w)
		return "let " + w + " = " + value
	case 2:
		if w := s.word(); w != "1" {
			return w + " = " + s.expr(deep)
		}
	case 3:
		return "if (" + s.expr(deep) + ") " + s.block(deep) + " else " + s.block(deep)
	case 4:
		return "if (" + s.expr(deep) + ") " + s.block(deep)
	case 5:
		return "while (" + s.expr(deep) + ") " + s.block(deep)
	}
	return []string{"return ", "fail ", "sleep ", "do "}[s.below(4)] + s.expr(deep)
}

// flows are strewn flows, those that are read.
func flows(times, wild int) (all []api.Tree) {
	s := strewn{draws: 15, wild: wild}
	for len(all) < times {
		s.seen, s.made, s.left = nil, 0, s.below(60)
		for i := range s.below(4) {
			s.seen = append(s.seen, fmt.Sprint("p", i))
		}
		if x, _, e := parse.Flow("flow f(" + strings.Join(s.seen, ", ") + ") " + s.block(2+s.below(6))); e == api.OK {
			all = append(all, x)
		}
	}
	return all
}

// TestStrewn holds strewn flows, and such of which a twig was changed.
func TestStrewn(t *testing.T) { // P15.1, P15.3
	told := map[api.Errno]int{}
	d := draws(5)
	for _, wild := range []int{3, 40, 100000} {
		for _, x := range flows(3000, wild) {
			y := slices.Clone(x)
			at := d.below(len(y))
			switch d.below(4) {
			case 0:
				y[at].Op = byte(d.below(60))
			case 1:
				y[at].Kids += d.below(3) - 1
			case 2:
				y[at].Text = y[d.below(len(y))].Text
			default:
				y = y[:at]
			}
			for _, z := range []api.Tree{x, y} {
				hold(t, z)
				_, e := check.Names(z)
				told[e]++
			}
		}
	}
	for _, e := range []api.Errno{api.OK, api.ErrShape, api.ErrName, api.ErrTwice} {
		if told[e] < 40 {
			t.Errorf("there were too few flows: %v", told)
		}
	}
}

// TestSameCode holds that code hangs neither on how a source is written, nor on what its variables and itself are called.
func TestSameCode(t *testing.T) { // P15.1
	right := 0
	for _, x := range flows(500, 100000) {
		want, params, e := compile.Compile(x)
		if e != api.OK || len(want) < 10 {
			continue
		}
		right++
		s, _ := show.Tree(x)
		isCode(t, of(t, s), want, params)
		y := slices.Clone(x)
		for i, z := range x {
			switch z.Op {
			case api.OFlow, api.OParam, api.OLet, api.OSet, api.OName:
				y[i].Text = "other_" + z.Text
			}
		}
		isCode(t, y, want, params)
	}
	if right < 250 {
		t.Errorf("there were too few flows: %d", right)
	}
}

// spoil puts x everywhere into l, into its spare room too.
func spoil[E any](l []E, x E) {
	l = l[:cap(l)]
	for i := range l {
		l[i] = x
	}
}

// spare is what stands in the spare room of a tree.
var spare = api.Twig{Op: 99, Kids: 77, Int: 7, Text: "spare"}

func TestMemory(t *testing.T) { // P15.2
	for _, x := range slices.Concat(flows(500, 3), flows(500, 100000)) {
		had := append(slices.Clone(x), slices.Repeat(api.Tree{spare}, 9)...)
		h := slices.Clone(had)[:len(x)]
		first, _, _ := compile.Compile(h)
		second, params, e := compile.Compile(h)
		if !slices.Equal(h[:len(had)], had) {
			t.Fatalf("%s was changed: %s", short(had), short(h[:len(had)]))
		}
		spoil(first, api.Instr{Op: 99, A: 77})
		spoil(h, spare)
		if e == api.OK {
			isCode(t, x, second, params)
			isFit(t, x, second)
		}
		hold(t, x)
	}
}

// TestAgain holds that no call hangs on those ahead of it.
func TestAgain(t *testing.T) { // P15.1
	right, wrong := of(t, "flow f(a) { let b = a return call g(b) }"), of(t, "flow f(b) { let a = fork { let b = a } }")
	for range 3 {
		isCode(t, right, code(t, "load 0; store 1; load 1; call 1 g; return; end"), 1)
		isWrong(t, wrong, api.ErrTwice)
		isWrong(t, nil, api.ErrShape)
	}
}
