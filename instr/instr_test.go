package instr_test

import (
	"fmt"
	"slices"
	"strings"
	"testing"

	"prompter/api"
	"prompter/instr"
)

// code is a code, written as a list in which places are left out, each instruction ended by a semicolon or the end.
func code(s string) []api.Instr {
	if s == "" {
		return nil
	}
	var l []api.Instr
	for i, line := range strings.Split(s, "; ") {
		in, ok := plainReadLine(fmt.Sprint(i, " ", line), i)
		if !ok {
			panic(fmt.Sprintf("%q is no instruction", line))
		}
		l = append(l, in)
	}
	return l
}

// short is what x is, in few words.
func short(x any) string {
	s := fmt.Sprintf("%v", x)
	if len(s) > 500 {
		return s[:500] + " .."
	}
	return s
}

// check is what Check and Depths answer; it fails, if they don't fit together.
func check(t *testing.T, l []api.Instr, params int) checked {
	t.Helper()
	slots, stack, at, e := instr.Check(l, params)
	depths, f := instr.Depths(l, params)
	if e != f || f != api.OK && len(depths) > 0 {
		t.Fatalf("%s with %d: Check %d, Depths %s, %d", short(l), params, e, short(depths), f)
	}
	return checked{slots, stack, at, e, depths}
}

// isChecked fails, unless Check and Depths answer that.
func isChecked(t *testing.T, l []api.Instr, params int, want checked) {
	t.Helper()
	got := check(t, l, params)
	if got.slots != want.slots || got.stack != want.stack || got.at != want.at || got.e != want.e || !slices.Equal(got.depths, want.depths) {
		t.Fatalf("%s with %d: %s, not %s", short(l), params, short(got), short(want))
	}
}

// isPlain fails, unless Check and Depths answer what the chapter says.
func isPlain(t *testing.T, l []api.Instr, params int) {
	t.Helper()
	isChecked(t, l, params, plainCheck(l, params))
}

func TestWord(t *testing.T) { // P14.3
	n := 0
	for op := range 256 {
		want := rows[byte(op)].word
		if got := instr.Word(byte(op)); got != want {
			t.Errorf("Word(%d): %q, not %q", op, got, want)
		}
		if want != "" {
			n++
		}
	}
	if n != 43 {
		t.Errorf("%d words", n)
	}
	for op, want := range map[byte]string{api.IJump: "jump", api.IBool: "bool", api.IEnd: "end", api.OEq: "eq", api.OAt: "at", api.OMod: "mod", api.OConj: "conj", api.IVersion: "version", 0: "", 7: "", 11: "", 19: "", 29: "", 30: "", 31: "", 49: "", 58: "", 255: ""} {
		if got := instr.Word(op); got != want {
			t.Errorf("Word(%d): %q, not %q", op, got, want)
		}
	}
}

func TestCheck(t *testing.T) { // P14.1
	for _, x := range []struct {
		code             string
		params           int
		slots, stack, at int
		e                api.Errno
	}{
		{"load 0; int 1; add; return; end", 1, 1, 2, 0, api.OK},
		{"end", 0, 0, 0, 0, api.OK}, {"end", 100, 100, 0, 0, api.OK}, {"end; end", 3, 3, 0, 0, api.OK},
		{"end", 101, 0, 0, 0, api.ErrArg}, {"end", -1, 0, 0, 0, api.ErrArg}, {"", 101, 0, 0, 0, api.ErrArg}, {"", 0, 0, 0, 0, api.ErrShape}, {"", 100, 0, 0, 0, api.ErrShape},
		{"true; branch 0; end", 0, 0, 1, 0, api.OK}, {"true; branch 3; jump 0; end", 0, 0, 1, 0, api.OK},
		{"jump 1; end", 0, 0, 0, 0, api.OK}, {"jump 2; end; jump 1", 0, 0, 0, 0, api.OK},
		// What there is too little of, or too much.
		{"drop; end", 0, 0, 0, 0, api.ErrStack}, {"true; drop; drop; end", 0, 0, 0, 2, api.ErrStack}, {"true; end", 0, 0, 0, 1, api.ErrStack}, {"true; drop; end", 0, 0, 1, 0, api.OK},
		{"return", 0, 0, 0, 0, api.ErrStack}, {"none; return", 0, 0, 1, 0, api.OK}, {"none; none; return", 0, 0, 0, 2, api.ErrStack},
		{"fail", 0, 0, 0, 0, api.ErrStack}, {"none; fail", 0, 0, 1, 0, api.OK}, {"none; none; fail", 0, 0, 0, 2, api.ErrStack},
		{"add; end", 0, 0, 0, 0, api.ErrStack}, {"none; add; return", 0, 0, 0, 1, api.ErrStack}, {"none; none; add; return", 0, 0, 2, 0, api.OK},
		{"list 0; return", 0, 0, 1, 0, api.OK}, {"list 1; return", 0, 0, 0, 0, api.ErrStack}, {"none; none; none; list 3; return", 0, 0, 3, 0, api.OK},
		{"none; none; none; list 2; return", 0, 0, 0, 4, api.ErrStack}, {"none; none; list 3; return", 0, 0, 0, 2, api.ErrStack},
		{"call 0 pay; await; return", 0, 0, 1, 0, api.OK}, {"none; none; call 2 pay; settle; return", 0, 0, 2, 0, api.OK}, {"none; call 2 pay; drop; end", 0, 0, 0, 1, api.ErrStack},
		{"none; child 1 f; drop; end", 0, 0, 1, 0, api.OK}, {"child 1 f; drop; end", 0, 0, 0, 0, api.ErrStack},
		{"int 5; timer; await; drop; take go; sleep; version; store 0; end", 0, 1, 1, 0, api.OK}, {"timer; end", 0, 0, 0, 0, api.ErrStack}, {"store 0; end", 0, 0, 0, 0, api.ErrStack},
		{"true; bool; not; return", 0, 0, 1, 0, api.OK}, {"bool; end", 0, 0, 0, 0, api.ErrStack}, {"not; end", 0, 0, 0, 0, api.ErrStack}, {"sleep; end", 0, 0, 0, 0, api.ErrStack},
		{"await; end", 0, 0, 0, 0, api.ErrStack}, {"settle; end", 0, 0, 0, 0, api.ErrStack}, {"branch 0; end", 0, 0, 0, 0, api.ErrStack}, {"or 0; end", 0, 0, 0, 0, api.ErrStack}, {"and 0; end", 0, 0, 0, 0, api.ErrStack},
		// Nobody comes behind the last one.
		{"true", 0, 0, 0, 0, api.ErrStack}, {"true; drop", 0, 0, 0, 1, api.ErrStack}, {"true; branch 0", 0, 0, 0, 1, api.ErrStack}, {"fork 0", 0, 0, 0, 0, api.ErrStack}, {"true; bool", 0, 0, 0, 1, api.ErrStack},
		{"true; or 0", 0, 0, 0, 1, api.ErrStack}, {"true; and 1", 0, 0, 0, 1, api.ErrStack}, {"end; true", 0, 0, 0, 0, api.OK}, {"jump 2; true; end", 0, 0, 0, 0, api.OK},
		// Both ways.
		{"true; or 4; false; bool; return", 0, 0, 1, 0, api.OK}, {"true; and 4; false; bool; drop; end", 0, 0, 1, 0, api.OK}, {"true; or 3; end; end", 0, 0, 0, 3, api.ErrStack}, {"true; and 3; end; return", 0, 0, 1, 0, api.OK},
		{"true; or 2; end", 0, 0, 0, 1, api.ErrStack}, {"true; branch 2; end", 0, 0, 1, 0, api.OK}, {"true; branch 3; true; end", 0, 0, 0, 2, api.ErrStack}, {"true; branch 4; true; drop; end", 0, 0, 1, 0, api.OK},
		{"true; branch 5; none; jump 6; end; true; return", 0, 0, 1, 0, api.OK}, {"true; branch 4; none; jump 5; end; return", 0, 0, 1, 0, api.OK},
		{"fork 2; jump 3; end; drop; end", 0, 0, 1, 0, api.OK}, {"none; fork 4; drop; return; none; return", 0, 0, 2, 0, api.OK}, {"none; fork 2; drop; return", 0, 0, 0, 1, api.ErrStack},
		{"fork 1; return", 0, 0, 0, 0, api.ErrStack}, {"fork 0; return", 0, 0, 1, 0, api.OK}, {"none; drop; fork 0; return", 0, 0, 1, 0, api.OK}, {"none; fork 1; drop; end", 0, 0, 0, 1, api.ErrStack},
		{"fork 2; return; drop; end", 0, 0, 0, 2, api.ErrStack}, {"fork 2; return; none; end", 0, 0, 0, 3, api.ErrStack},
		{"true; drop; jump 0", 0, 0, 1, 0, api.OK}, {"true; jump 0", 0, 0, 0, 1, api.ErrStack},
		// The least place that was met is gone through first.
		{"jump 3; drop; end; true; branch 1; drop; end", 0, 0, 0, 1, api.ErrStack}, {"jump 3; end; end; true; branch 1; drop; end", 0, 0, 0, 5, api.ErrStack},
		{"jump 3; true; end; true; branch 1; drop; end", 0, 0, 0, 2, api.ErrStack}, {"fork 4; drop; drop; end; true; end", 0, 0, 0, 2, api.ErrStack}, {"fork 3; drop; end; true; end", 0, 0, 0, 4, api.ErrStack},
		{"true; branch 4; true; jump 4; end", 0, 0, 0, 3, api.ErrStack}, {"jump 2; jump 3; jump 1; drop; end", 0, 0, 0, 3, api.ErrStack},
		// Circles without a step.
		{"jump 0", 0, 0, 0, 0, api.ErrStack}, {"true; bool; jump 1", 0, 0, 0, 1, api.ErrStack}, {"end; jump 1", 0, 0, 0, 0, api.OK}, {"jump 2; jump 0; jump 1", 0, 0, 0, 0, api.ErrStack},
		{"jump 1; jump 2; jump 1", 0, 0, 0, 0, api.ErrStack}, {"true; branch 3; end; jump 3", 0, 0, 0, 3, api.ErrStack}, {"true; branch 4; end; jump 3; jump 5; jump 4", 0, 0, 0, 4, api.ErrStack},
		{"true; branch 3; end; jump 5; end; jump 3", 0, 0, 0, 3, api.ErrStack}, {"true; branch 6; jump 4; end; jump 3; end; jump 6", 0, 0, 0, 6, api.ErrStack},
		{"true; bool; bool; jump 5; return; bool; jump 2", 0, 0, 0, 1, api.ErrStack}, {"true; bool; not; jump 1", 0, 0, 1, 0, api.OK}, {"true; jump 2; bool; jump 1", 0, 0, 0, 1, api.ErrStack},
		{"fork 3; drop; end; jump 3", 0, 0, 0, 3, api.ErrStack}, {"fork 3; drop; end; jump 4; jump 5; end; jump 6", 0, 0, 1, 0, api.OK},
		{"jump 1; drop; end", 0, 0, 0, 1, api.ErrStack}, {"true; branch 4; jump 2; end; drop", 0, 0, 0, 4, api.ErrStack}, // what does not fit goes ahead of circles
		// Slots are those of all instructions, whether anybody comes to them or not.
		{"load 0; return", 0, 1, 1, 0, api.OK}, {"load 99; return", 0, 100, 1, 0, api.OK}, {"end; store 6", 2, 7, 0, 0, api.OK}, {"end; store 6; load 3", 2, 7, 0, 0, api.OK}, {"end; load 6", 7, 7, 0, 0, api.OK},
		{"end; load 6", 8, 8, 0, 0, api.OK}, {"end; list 50; call 60 a; jump 1", 2, 2, 0, 0, api.OK},
	} {
		got := check(t, code(x.code), x.params)
		if got.slots != x.slots || got.stack != x.stack || got.at != x.at || got.e != x.e {
			t.Errorf("%s with %d: %s", x.code, x.params, short(got))
		}
		isPlain(t, code(x.code), x.params)
	}
}

func TestDepths(t *testing.T) { // P14.2
	for s, want := range map[string][]int{
		"end":                                           {0},
		"jump 2; drop; end":                             {0, -1, 0},
		"load 0; int 1; add; return; end":               {0, 1, 2, 1, -1},
		"fork 2; jump 3; end; drop; end":                {0, 1, 0, 1, 0},
		"true; or 4; false; bool; return":               {0, 1, 0, 1, 1},
		"true; branch 3; jump 0; end":                   {0, 1, 0, 0},
		"none; none; none; list 3; return; end; jump 6": {0, 1, 2, 3, 1, -1, -1},
		"none; fork 4; drop; return; none; return":      {0, 1, 2, 1, 0, 1},
		"drop; end":                                     nil, "": nil, "jump 0": nil,
	} {
		got, e := instr.Depths(code(s), 1)
		if !slices.Equal(got, want) || (e == api.OK) != (want != nil) {
			t.Errorf("Depths of %s: %v, %d", s, got, e)
		}
	}
	for _, x := range []struct {
		code   []api.Instr
		params int
		e      api.Errno
	}{{code("end"), -1, api.ErrArg}, {code("end"), 101, api.ErrArg}, {nil, 0, api.ErrShape}, {code("drop; end"), 0, api.ErrStack}, {code("jump 0"), 0, api.ErrStack}, {[]api.Instr{{Op: 7}}, 0, api.ErrShape}, {make([]api.Instr, 8193), 0, api.ErrLong}} {
		if got, e := instr.Depths(x.code, x.params); len(got) > 0 || e != x.e {
			t.Errorf("Depths of %s: %v, %d", short(x.code), got, e)
		}
	}
}

// unmade is a code of right instructions, with in at that place.
func unmade(in api.Instr, at, n int) []api.Instr {
	l := slices.Repeat(code("end"), n)
	l[at] = in
	return l
}

// isRight fails, unless all calls take in as the chapter says it, at each place of a code of n.
func isRight(t *testing.T, in api.Instr, n int) {
	t.Helper()
	right := plainShaped(in) && plainThere(in, n)
	for at := range n {
		l := unmade(in, at, n)
		got := check(t, l, 0)
		_, e := instr.Bytes(l)
		_, f := instr.List(l)
		if right != (got.e != api.ErrShape) || right != (e == api.OK) || right != (f == api.OK) {
			t.Fatalf("%s at %d of %d: Check %d, Bytes %d, List %d", short(in), at, n, got.e, e, f)
		}
		if !right && (got.at != at || e != api.ErrShape || f != api.ErrShape) {
			t.Fatalf("%s at %d of %d: Check %d at %d, Bytes %d, List %d", short(in), at, n, got.e, got.at, e, f)
		}
		isPlain(t, l, 0)
	}
}

func TestRight(t *testing.T) { // P14.1, P14.4, P14.6
	numbers := []int{-1 << 63, -1 << 32, -8192, -1, 0, 1, 2, 3, 99, 100, 2047, 2048, 2049, 4096, 8191, 8192, 1 << 31, 1 << 32, 1<<32 + 1, 1 << 62, 1<<63 - 1}
	texts := []string{"", "a", "A", "1", "_", "a_1", "pay", "pay ", " pay", "pay\n", "a\x00", "a\xff", "é", "a-b", "aB", strings.Repeat("z", 24), strings.Repeat("z", 25), strings.Repeat("z", 4095), strings.Repeat("z", 4096), strings.Repeat("\x00", 4095), strings.Repeat("\xff", 4096), strings.Repeat("z", 100000)}
	for op := range 256 {
		for _, a := range numbers {
			isRight(t, api.Instr{Op: byte(op), A: a}, 3)
			isRight(t, api.Instr{Op: byte(op), A: a, Text: "pay"}, 3)
			isRight(t, api.Instr{Op: byte(op), Int: int64(a)}, 1)
			isRight(t, api.Instr{Op: byte(op), A: a, Int: int64(a)}, 2)
			isRight(t, api.Instr{Op: byte(op), Int: int64(a), Text: "pay"}, 1)
		}
		for _, s := range texts {
			isRight(t, api.Instr{Op: byte(op), Text: s}, 1)
			isRight(t, api.Instr{Op: byte(op), Text: s, A: 1}, 2)
		}
	}
}

// TestFirstWrong holds codes of several wrong instructions: the first one's place is told, whatever else is wrong.
func TestFirstWrong(t *testing.T) { // P14.1
	wrong := []api.Instr{{}, {Op: 30}, {Op: api.IEnd, A: 1}, {Op: api.IEnd, Int: 1}, {Op: api.IEnd, Text: "a"}, {Op: api.IJump, A: 4}, {Op: api.ILoad, A: 100}, {Op: api.IList, A: 2049}, {Op: api.ICall, Text: "A"}}
	for _, x := range wrong {
		for _, y := range wrong {
			for i := range 4 {
				for j := range i {
					l := code("drop; drop; jump 2; end")
					l[i], l[j] = x, y
					isChecked(t, l, 0, checked{at: j, e: api.ErrShape})
				}
			}
		}
	}
}
