package compile_test

import (
	"fmt"
	"slices"
	"strings"
	"testing"

	"prompter/api"
	"prompter/check"
	"prompter/compile"
	"prompter/instr"
	"prompter/parse"
)

// of is the tree of a source.
func of(t *testing.T, s string) api.Tree {
	t.Helper()
	x, at, e := parse.Flow(s)
	if e != api.OK {
		t.Fatalf("Flow of %.200q: %d, %d", s, at, e)
	}
	return x
}

// short is a list in few words.
func short[E any](l []E) string {
	if len(l) > 40 {
		return fmt.Sprintf("%v .. (%d)", l[:40], len(l))
	}
	return fmt.Sprint(l)
}

// code is the code whose lines, without their numbers, are told with "; " in between.
func code(t *testing.T, s string) []api.Instr {
	t.Helper()
	var list strings.Builder
	for i, line := range strings.Split(s, "; ") {
		fmt.Fprintf(&list, "%d %s\n", i, line)
	}
	l, at, e := instr.Unlist(list.String())
	if e != api.OK {
		t.Fatalf("no code: %q, line %d, %d", s, at, e)
	}
	return l
}

// isCode fails unless x is compiled to that code, with so many parameters.
func isCode(t *testing.T, x api.Tree, want []api.Instr, params int) {
	t.Helper()
	l, n, e := compile.Compile(x)
	if !slices.Equal(l, want) || n != params || e != api.OK {
		t.Fatalf("Compile(%s): %s, %d, %d, not %s, %d", short(x), short(l), n, e, short(want), params)
	}
}

// isWrong fails unless that error is told of x, and nothing else.
func isWrong(t *testing.T, x api.Tree, want api.Errno) {
	t.Helper()
	if l, n, e := compile.Compile(x); len(l) != 0 || n != 0 || e != want {
		t.Fatalf("Compile(%s): %s, %d, %d, not %d alone", short(x), short(l), n, e, want)
	}
}

// hold fails unless what is told of x is what the chapter says.
func hold(t *testing.T, x api.Tree) {
	t.Helper()
	if _, e := check.Names(x); e != api.OK {
		isWrong(t, x, e)
		return
	}
	want := plain(x)
	isCode(t, x, want, count(x, api.OParam))
	isFit(t, x, want)
}

// TestCode holds code that was written by hand; the flows have the parameter p.
func TestCode(t *testing.T) { // P15.1
	for s, want := range map[string]string{
		"":                                    "end",
		"return p + 1":                        "load 0; int 1; add; return; end",
		"fail p":                              "load 0; fail; end",
		"sleep p":                             "load 0; sleep; end",
		"do p":                                "load 0; drop; end",
		"do none do true do false do version": "none; drop; true; drop; false; drop; version; drop; end",
		"do 7 do \"\" do \"a b\\n\"":          "int 7; drop; text \"\"; drop; text \"a b\\x0a\"; drop; end",
		"do 9223372036854775807":              "int 9223372036854775807; drop; end",
		"let a = 1 let b = a b = p a = b":     "int 1; store 1; load 1; store 2; load 0; store 2; load 2; store 1; end",
		"do []":                               "list 0; drop; end",
		"do [p, [1, 2], []]":                  "load 0; int 1; int 2; list 2; list 0; list 3; drop; end",
		"do p + 1 - 2 * 3 / 4 % 5":            "load 0; int 1; add; int 2; int 3; mul; int 4; div; int 5; mod; sub; drop; end",
		"do [1 == 2, 3 != 4, 5 < 6, 7 <= 8]":  "int 1; int 2; eq; int 3; int 4; ne; int 5; int 6; lt; int 7; int 8; le; list 4; drop; end",
		"do num(1, p)[0]":                     "int 1; load 0; num; int 0; at; drop; end",
		"do [not p, - p, len(p), re(p), im(p), conj(p)]": "load 0; not; load 0; neg; load 0; len; load 0; re; load 0; im; load 0; conj; list 6; drop; end",
		"do p - -1": "load 0; int 1; neg; sub; drop; end",

		"do call g()":                                "call 0 g; drop; end",
		"do call g(p, 1)":                            "load 0; int 1; call 2 g; drop; end",
		"do child g_2(call f(), [p])":                "call 0 f; load 0; list 1; child 2 g_2; drop; end",
		"let h = timer(1) do await h do settle h":    "int 1; timer; store 1; load 1; await; drop; load 1; settle; drop; end",
		"do take s do await call p(take p, p)":       "take s; drop; take p; load 0; call 2 p; await; drop; end",
		"do true or false":                           "true; or 4; false; bool; drop; end",
		"do true and false":                          "true; and 4; false; bool; drop; end",
		"do 1 or 2 or 3":                             "int 1; or 4; int 2; bool; or 7; int 3; bool; drop; end",
		"do 1 or (2 or 3)":                           "int 1; or 7; int 2; or 6; int 3; bool; bool; drop; end",
		"do 1 or 2 and 3":                            "int 1; or 7; int 2; and 6; int 3; bool; bool; drop; end",
		"do [1, p and p]":                            "int 1; load 0; and 5; load 0; bool; list 2; drop; end",
		"if p { }":                                   "load 0; branch 2; end",
		"if p { do 1 }":                              "load 0; branch 4; int 1; drop; end",
		"if p { } else { }":                          "load 0; branch 3; jump 3; end",
		"if p { do 1 } else { }":                     "load 0; branch 5; int 1; drop; jump 5; end",
		"if p { } else { do 2 }":                     "load 0; branch 3; jump 5; int 2; drop; end",
		"if p { do 1 } else { do 2 } do 3":           "load 0; branch 5; int 1; drop; jump 7; int 2; drop; int 3; drop; end",
		"if p { if p { do 1 } do 2 } do 3":           "load 0; branch 8; load 0; branch 6; int 1; drop; int 2; drop; int 3; drop; end",
		"if p { if p { } else { } } else { do 3 }":   "load 0; branch 6; load 0; branch 5; jump 5; jump 8; int 3; drop; end",
		"while p { }":                                "load 0; branch 3; jump 0; end",
		"do 1 while p or p { do 2 } do 3":            "int 1; drop; load 0; or 6; load 0; bool; branch 10; int 2; drop; jump 2; int 3; drop; end",
		"while p { while p { } }":                    "load 0; branch 6; load 0; branch 5; jump 2; jump 0; end",
		"while p { if p { } else { return 1 } }":     "load 0; branch 8; load 0; branch 5; jump 7; int 1; return; jump 0; end",
		"do fork { }":                                "fork 2; jump 3; end; drop; end",
		"do fork { return p }":                       "fork 2; jump 5; load 0; return; end; drop; end",
		"let h = fork { let a = p } let b = h":       "fork 2; jump 5; load 0; store 2; end; store 1; load 1; store 3; end",
		"do [1, fork { do fork { } }]":               "int 1; fork 3; jump 8; fork 5; jump 6; end; drop; end; list 2; drop; end",
		"do await fork { } == fork { }":              "fork 2; jump 3; end; await; fork 6; jump 7; end; eq; drop; end",
		"while fork { while p { } } { }":             "fork 2; jump 6; load 0; branch 5; jump 2; end; branch 8; jump 0; end",
		"return 1 return 2":                          "int 1; return; int 2; return; end",
		"if (p and not fork { fail p }) { sleep 1 }": "load 0; and 9; fork 4; jump 7; load 0; fail; end; not; bool; branch 12; int 1; sleep; end",
	} {
		x := of(t, "flow f(p) { "+s+" }")
		isCode(t, x, code(t, want), 1)
		hold(t, x)
	}
}

func TestParams(t *testing.T) { // P15.1
	isCode(t, of(t, "flow f() { }"), code(t, "end"), 0)
	isCode(t, of(t, "flow f(f) { return f }"), code(t, "load 0; return; end"), 1)
	isCode(t, of(t, "flow f(b, a) { let c = a c = b }"), code(t, "load 1; store 2; load 0; store 2; end"), 2)
	isCode(t, of(t, "flow f(a, b, c) { }"), code(t, "end"), 3)
	isCode(t, of(t, "flow f() { let a = 1 do fork { let b = a } let c = a }"), code(t, "int 1; store 0; fork 4; jump 7; load 0; store 1; end; drop; load 0; store 2; end"), 0)
}

func TestWrong(t *testing.T) { // P15.1
	for s, want := range map[string]api.Errno{
		"flow f() { do x }":                                  api.ErrName,
		"flow f() { do f }":                                  api.ErrName,
		"flow f() { x = 1 }":                                 api.ErrName,
		"flow f() { let x = x }":                             api.ErrName,
		"flow f() { if true { let x = 1 } do x }":            api.ErrName,
		"flow f() { do fork { let x = 1 } do x }":            api.ErrName,
		"flow f(a, a) { }":                                   api.ErrTwice,
		"flow f(a) { let a = 1 }":                            api.ErrTwice,
		"flow f(a, a) { do x }":                              api.ErrTwice,
		"flow f(a) { do x let a = 1 }":                       api.ErrName,
		"flow f(" + many(101, "p%d", ", ") + ") {}":          api.ErrLong,
		"flow f() { " + many(101, "let v%d = 1", " ") + " }": api.ErrLong,
	} {
		isWrong(t, of(t, s), want)
	}
	for _, s := range []string{"1", "true", "fork { do 1 }", "[]"} {
		x, _, _ := parse.Expr(s)
		isWrong(t, x, api.ErrShape)
	}
	good := of(t, "flow f(a) { if a { return 1 } }")
	for n := range good {
		isWrong(t, good[:n], api.ErrShape)
		isWrong(t, good[n+1:], api.ErrShape)
	}
	isWrong(t, slices.Concat(good, good), api.ErrShape)
	isWrong(t, make(api.Tree, 2049), api.ErrLong)
	isWrong(t, make(api.Tree, 2048), api.ErrShape)
}

// TestWrongTwigs holds a flow of which one field of one twig was changed.
func TestWrongTwigs(t *testing.T) { // P15.1
	good := of(t, "flow f(a) { let b = [a, 1] while a { if b == \"x\" { b = call g(a) } else { do fork { sleep -1 } } } }")
	for i := range good {
		for op := range 256 {
			x := slices.Clone(good)
			x[i].Op = byte(op)
			hold(t, x)
		}
		for _, n := range []int{-1 << 63, -3, -1, 1, 2, 1<<63 - 1} {
			x, y, z := slices.Clone(good), slices.Clone(good), slices.Clone(good)
			x[i].Kids = n
			hold(t, x)
			y[i].Kids += n
			hold(t, y)
			z[i].Int = int64(n)
			hold(t, z)
		}
		for _, w := range []string{"", "a", "b", "g", "1", "if", "A"} {
			x := slices.Clone(good)
			x[i].Text = w
			hold(t, x)
		}
	}
}
