package check_test

import (
	"fmt"
	"math"
	"slices"
	"strings"
	"testing"

	"prompter/api"
	"prompter/check"
	"prompter/parse"
	"prompter/tree"
)

// of is the tree of a source.
func of(t *testing.T, s string) api.Tree {
	t.Helper()
	x, at, e := parse.Flow(s)
	if e != api.OK {
		t.Fatalf("Flow of %.200q: %d, %d", s, at, e)
	}
	return x
}

// short is a tree in few words.
func short(x api.Tree) string {
	if len(x) > 30 {
		return fmt.Sprintf("%v .. (%d twigs)", x[:30], len(x))
	}
	return fmt.Sprint(x)
}

// isTold fails unless the calls tell of x's names and slots just that, and Asks what the twigs of x say.
func isTold(t *testing.T, x api.Tree, slots []int, at int, e api.Errno) {
	t.Helper()
	if l, a, err := check.Slots(x); !slices.Equal(l, slots) || a != at || err != e {
		t.Errorf("Slots(%s): %v, %d, %d, not %v, %d, %d", short(x), l, a, err, slots, at, e)
	}
	if a, err := check.Names(x); a != at || err != e {
		t.Errorf("Names(%s): %d, %d, not %d, %d", short(x), a, err, at, e)
	}
	var asks [3][]string
	if e == api.OK {
		asks = [...][]string{plainAsks(x, api.OCall), plainAsks(x, api.OChild), plainAsks(x, api.OTake)}
	}
	calls, children, signals, err := check.Asks(x)
	for i, l := range [...][]string{calls, children, signals} {
		if !slices.Equal(l, asks[i]) || err != e {
			t.Errorf("Asks(%s): %q (list %d), %d, not %q, %d", short(x), l, i, err, asks[i], e)
		}
	}
}

// isWrong fails unless all calls tell that error of x, with its place, and nothing else.
func isWrong(t *testing.T, x api.Tree, at int, e api.Errno) {
	t.Helper()
	isTold(t, x, nil, at, e)
}

// hold fails unless the calls tell of x what the chapter says.
func hold(t *testing.T, x api.Tree) {
	t.Helper()
	l, at, e := plain(x)
	isTold(t, x, l, at, e)
	if t.Failed() { // there are many trees: one that is wrong is enough
		t.FailNow()
	}
}

// named are the words that make or mean a variable, each with its slot; ? behind a twig of a slot that should have none, or the other way round.
func named(x api.Tree, l []int) string {
	var words []string
	for i, slot := range l {
		if makes(x[i].Op) || means(x[i].Op) {
			words = append(words, fmt.Sprint(x[i].Text, slot))
		} else if slot != -1 {
			words = append(words, fmt.Sprint("?", slot))
		}
	}
	return strings.Join(words, " ")
}

func TestSlots(t *testing.T) { // P11.1, P11.2
	for s, want := range map[string]string{
		"flow f() { }":                                                                              "",
		"flow f(f) { return f }":                                                                    "f0 f0",
		"flow f(p) { let a = p let b = a }":                                                         "p0 a1 p0 b2 a1",
		"flow f(b, a) { return [a, b, a] }":                                                         "b0 a1 a1 b0 a1",
		"flow f(a) { a = a + a }":                                                                   "a0 a0 a0 a0",
		"flow f() { let a = 1 let b = a b = a a = b }":                                              "a0 b1 a0 b1 a0 a0 b1",
		"flow f() { if true { let a = 1 } let a = 2 }":                                              "a0 a1",
		"flow f() { if true { let a = 1 do a } else { let a = 2 do a } }":                           "a0 a0 a1 a1",
		"flow f(a) { if a { a = 1 } else { do a } while a { do a } do a }":                          "a0 a0 a0 a0 a0 a0 a0",
		"flow f() { while true { let a = 1 a = a } while true { let a = 2 } }":                      "a0 a0 a0 a1",
		"flow f() { let a = 1 while a { let b = a if b { let c = b c = a } } let b = a let c = b }": "a0 a0 b1 a0 b1 c2 b1 c2 a0 b3 a0 c4 b3",
		"flow f() { let a = fork { let a = 1 do a } do a }":                                         "a0 a1 a1 a0",
		"flow f() { let a = fork { let a = fork { let a = 1 do a } do a } do a }":                   "a0 a1 a2 a2 a1 a0",
		"flow f() { let a = [fork { let b = 1 }, fork { let b = 2 do b }] let b = a }":              "a0 b1 b2 b2 b3 a0",
		"flow f(p) { do fork { p = 1 let a = p } let a = fork { do p } }":                           "p0 p0 a1 p0 a2 p0",
		"flow f(p) { let a = 1 do fork { a = p do fork { p = a } } do a }":                          "p0 a1 a1 p0 p0 a1 a1",
		"flow f(a) { a = fork { a = 1 do a } }":                                                     "a0 a0 a0 a0",
		"flow f(h) { if fork { let a = h } { let a = h } else { let a = 1 } let a = 2 do a }":       "h0 a1 h0 a2 h0 a3 a4 a4",
		"flow f(a) { do call a(a) do child a(a, take a) return take a }":                            "a0 a0 a0",
		"flow f(x) { return - x[x] == x and not len(x) < num(x, 1) % x }":                           "x0 x0 x0 x0 x0 x0 x0",
		"flow f(x) { sleep x do await x do settle x do timer(x) if version == 1 { fail x } }":       "x0 x0 x0 x0 x0 x0",
		"flow f(a, a_, a0, ab) { return [ab, a0, a_, a] }":                                          "a0 a_1 a02 ab3 ab3 a02 a_1 a0",
		"flow f() { return [none, true, false, 1, \"a\", \"\", version, []] }":                      "",
		"flow f() { let a = \"a\" return [\"a\", a] }":                                              "a0 a0",
		"flow f() { return 1 let a = 1 return a }":                                                  "a0 a0",
	} {
		x := of(t, s)
		l, at, e := check.Slots(x)
		if len(l) != len(x) || named(x, l) != want || at != 0 || e != api.OK {
			t.Errorf("Slots of %q: %q (%v), %d, %d, not %q", s, named(x, l), l, at, e, want)
		}
		hold(t, x)
	}
}

func TestAllSlots(t *testing.T) { // P11.2
	isTold(t, of(t, "flow f() { }"), []int{-1, -1}, 0, api.OK)
	isTold(t, of(t, "flow f(p) { let a = p let b = a }"), []int{-1, 0, -1, 1, 0, 2, 1}, 0, api.OK)
	isTold(t, of(t, "flow f(p, q) { if q { q = call g(1, p) } else { sleep 2 } }"), []int{-1, 0, 1, -1, -1, 1, -1, 1, -1, -1, 0, -1, -1, -1}, 0, api.OK)
	isTold(t, of(t, "flow f() { let a = fork { let a = take a } return a }"), []int{-1, -1, 0, -1, -1, 1, -1, -1, 0}, 0, api.OK)
}

func TestWrongNames(t *testing.T) { // P11.1
	for _, c := range []struct {
		s  string
		at int
		e  api.Errno
	}{
		{"flow f() { let a = a }", 3, api.ErrName},
		{"flow f() { do f }", 3, api.ErrName},
		{"flow f() { do a let a = 1 }", 3, api.ErrName},
		{"flow f() { a = 1 }", 2, api.ErrName},
		{"flow f() { a = 1 let a = 1 }", 2, api.ErrName},
		{"flow f() { a = a }", 2, api.ErrName},
		{"flow f(a) { a = b }", 4, api.ErrName},
		{"flow f(a) { b = a }", 3, api.ErrName},
		{"flow f(a0) { do a }", 4, api.ErrName},
		{"flow f(a) { do a0 }", 4, api.ErrName},
		{"flow f() { let a = 1 + a }", 5, api.ErrName},
		{"flow f() { let a = [fork { do a }] }", 7, api.ErrName},
		{"flow f() { let a = fork { a = 1 } }", 5, api.ErrName},
		{"flow f() { if true { let a = 1 } do a }", 8, api.ErrName},
		{"flow f() { if true { let a = 1 } a = 1 }", 7, api.ErrName},
		{"flow f() { if true { let a = 1 } else { do a } }", 9, api.ErrName},
		{"flow f() { if a { let a = 1 } }", 3, api.ErrName},
		{"flow f() { while a { let a = true } }", 3, api.ErrName},
		{"flow f() { while true { let a = 1 } while a { } }", 8, api.ErrName},
		{"flow f() { while true { do a let a = 1 } }", 6, api.ErrName},
		{"flow f() { let b = fork { let a = 1 } do a }", 8, api.ErrName},
		{"flow f() { do [fork { let a = 1 }, a] }", 8, api.ErrName},
		{"flow f() { if fork { let a = 1 } { do a } }", 9, api.ErrName},
		{"flow f() { do call g(h) }", 4, api.ErrName},
		{"flow f() { do call g() do g }", 5, api.ErrName},
		{"flow f() { do take s do s }", 5, api.ErrName},
		{"flow f() { let a = take s do child s(s) }", 6, api.ErrName},
		{"flow f() { let a = \"b\" do [a, b] }", 7, api.ErrName},

		{"flow f(a, a) { }", 2, api.ErrTwice},
		{"flow f(a, b, c, b, a) { }", 4, api.ErrTwice},
		{"flow f(a, a, a) { do b }", 2, api.ErrTwice},
		{"flow f(a) { let a = 1 }", 3, api.ErrTwice},
		{"flow f(a) { let a = b }", 3, api.ErrTwice},
		{"flow f(a) { let a = a }", 3, api.ErrTwice},
		{"flow f() { let a = 1 let a = 2 }", 4, api.ErrTwice},
		{"flow f() { let a = 1 let b = 2 let a = 3 }", 6, api.ErrTwice},
		{"flow f() { let a = 1 if true { let a = 2 } }", 7, api.ErrTwice},
		{"flow f() { let a = 1 if true { } else { let a = 2 } }", 8, api.ErrTwice},
		{"flow f() { let a = 1 while true { let a = 2 } }", 7, api.ErrTwice},
		{"flow f() { let a = 1 do fork { let a = 2 } }", 7, api.ErrTwice},
		{"flow f(a) { do fork { do fork { let a = 2 } } }", 9, api.ErrTwice},
		{"flow f(a) { let b = fork { let a = 2 } }", 6, api.ErrTwice},
		{"flow f() { let a = fork { let a = 1 let a = 2 } }", 7, api.ErrTwice},
		{"flow f() { let a = fork { let b = 1 } let b = 1 let a = 2 }", 9, api.ErrTwice},
		{"flow f() { let a = fork { let a = 1 } let a = 2 }", 7, api.ErrTwice},
		{"flow f() { if true { let b = 1 } let a = 1 if true { let a = 2 } }", 12, api.ErrTwice},

		{"flow f(a) { do b let a = 1 }", 4, api.ErrName},
		{"flow f(a) { let a = 1 do b }", 3, api.ErrTwice},
		{"flow f(a) { let b = c let a = 1 }", 4, api.ErrName},
	} {
		x := of(t, c.s)
		isWrong(t, x, c.at, c.e)
		hold(t, x)
	}
}

func TestAsks(t *testing.T) { // P11.3
	for s, want := range map[string]string{
		"flow f() { }": ";;",
		"flow f() { do fork { do call g() do take s } do call b() do call g() do child k() }":          "b g;k;s",
		"flow f() { do fork { do call g() do take s } }":                                               "g;;s",
		"flow f() { do call g(call g(take g, child g(child a())), call a(take g)) }":                   "a g;a g;g",
		"flow f() { return [call b(), call a(), call c(), call a(), call b()] }":                       "a b c;;",
		"flow f() { return [child b(), child a(), child f(), child a(), child f()] }":                  ";a b f;",
		"flow f() { return [take b, take a, take c, take c, take b, take a] }":                         ";;a b c",
		"flow f() { return [call aa(), call a_(), call a0(), call a(), call b(), call a9b()] }":        "a a0 a9b a_ aa b;;",
		"flow f() { return [call z(), child y(), take x, take y, child z(), call x()] }":               "x z;y z;x y",
		"flow f() { if take i { do call t() } else { do call e() } while child w() { sleep take n } }": "e t;w;i n",
		"flow f(a) { let b = call c() b = take d fail child a(a, b) }":                                 "c;a;d",
		"flow f() { return await settle timer(len(- call a() + take b[child c()])) }":                  "a;c;b",
		"flow f() { return 1 return call late() }":                                                     "late;;",
		"flow f(a, b, c) { return [a, b, \"c\", fork { }] }":                                           ";;",
	} {
		x := of(t, s)
		calls, children, signals, e := check.Asks(x)
		got := strings.Join([]string{strings.Join(calls, " "), strings.Join(children, " "), strings.Join(signals, " ")}, ";")
		if got != want || e != api.OK {
			t.Errorf("Asks of %q: %q, %d, not %q", s, got, e, want)
		}
		hold(t, x)
	}
}

// TestNoFlow holds right trees that are no flows, whatever their names.
func TestNoFlow(t *testing.T) { // P11.1
	isWrong(t, api.Tree{{Op: api.OTrue}}, 0, api.ErrShape)
	seen := map[byte]bool{}
	var cut func(x api.Tree)
	cut = func(x api.Tree) {
		parts, e := tree.Parts(x)
		if e != api.OK {
			t.Fatalf("Parts(%v): %d", x, e)
		}
		for _, p := range parts {
			seen[p[0].Op] = true
			isWrong(t, p, 0, api.ErrShape)
			cut(p)
		}
	}
	cut(of(t, "flow f(p) { let a = p p = a if b { } else { } while call g(1) { } return child h() fail take s sleep timer(2) do fork { do await settle [none, true, false, \"t\", version] } }"))
	cut(of(t, "flow f() { do [1 or 2, 1 and 2, 1 == 2, 1 != 2, 1 < 2, 1 <= 2, 1 + 2, 1 - 2, 1 * 2, 1 / 2, 1 % 2, num(1, 2), 1[2], not 1, -1, len(1), re(1), im(1), conj(1)] }"))
	for op := range 256 {
		if o := byte(op); (o == api.OParam || o == api.OBlock || tree.Statement(o) || tree.Expression(o)) != seen[o] {
			t.Errorf("the Op %d: was it seen? %v", o, seen[o])
		}
	}
}

// TestWrongTrees holds lists that are no right trees: their fault is tree.Check's, whatever their names.
func TestWrongTrees(t *testing.T) { // P11.1, P11.3
	isWrong(t, nil, 0, api.ErrShape)
	isWrong(t, api.Tree{}, 0, api.ErrShape)
	isWrong(t, make(api.Tree, 2048), 0, api.ErrShape)
	isWrong(t, make(api.Tree, 2049), 0, api.ErrLong)
	isWrong(t, make(api.Tree, 1<<20), 0, api.ErrLong)
	for op := range 256 {
		for _, kids := range []int{math.MinInt, -1, 1, 2, math.MaxInt} {
			isWrong(t, api.Tree{{Op: byte(op), Kids: kids, Text: "a"}}, wrongAlone(op, kids), api.ErrShape)
		}
	}
	f := api.Twig{Op: api.OFlow, Kids: 1, Text: "f"}
	block := func(kids int) api.Twig { return api.Twig{Op: api.OBlock, Kids: kids} }
	a, do := api.Twig{Op: api.OName, Text: "a"}, api.Twig{Op: api.ODrop, Kids: 1}
	isWrong(t, api.Tree{f}, 1, api.ErrShape)
	isWrong(t, api.Tree{f, a}, 1, api.ErrShape)
	isWrong(t, api.Tree{f, block(1), a}, 2, api.ErrShape)
	isWrong(t, api.Tree{f, block(1), do}, 3, api.ErrShape)
	isWrong(t, api.Tree{f, block(1), do, a}, 3, api.ErrName)
	isWrong(t, api.Tree{f, block(1), do, a, a}, 4, api.ErrShape)
	isWrong(t, api.Tree{f, block(2), do, a, do, {Op: api.OInt, Int: -1}}, 5, api.ErrShape)
	isWrong(t, api.Tree{f, block(1), do, {Op: api.OName, Text: "do"}}, 3, api.ErrShape)
	isWrong(t, api.Tree{f, block(1), do, {Op: api.OName}}, 3, api.ErrShape)
	isWrong(t, api.Tree{f, block(0), f, block(0)}, 2, api.ErrShape)
	isWrong(t, api.Tree{{Op: api.OFlow, Kids: 1, Text: "flow"}, block(0)}, 0, api.ErrShape)
	isWrong(t, append(of(t, "flow f(a, a) { }"), a), 4, api.ErrShape)
	isWrong(t, append(of(t, "flow f() { do call g() }"), a), 4, api.ErrShape)
}

// wrongAlone is where a twig with the text a is wrong that stands alone but should have parts: at itself, or where the first part lacks.
func wrongAlone(op, kids int) int {
	one := slices.Contains([]int{api.OFlow, api.OLet, api.OSet, api.OCall, api.OChild}, op)
	two := slices.Contains([]int{api.OFlow, api.OCall, api.OChild}, op)
	if one && kids == 1 || two && kids == 2 {
		return 1
	}
	return 0
}
