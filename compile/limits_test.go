package compile_test

import (
	"fmt"
	"slices"
	"strings"
	"testing"

	"prompter/api"
	"prompter/compile"
)

// many is that form of each number below n, with between in between.
func many(n int, form, between string) string {
	var l []string
	for i := range n {
		l = append(l, fmt.Sprintf(form, i))
	}
	return strings.Join(l, between)
}

// isLong fails unless the code of s is what the chapter says, and has just so many instructions.
func isLong(t *testing.T, s string, instructions int) {
	t.Helper()
	x := of(t, s)
	hold(t, x)
	if l, _, _ := compile.Compile(x); len(l) != instructions {
		t.Errorf("%.60q: %d instructions, not %d", s, len(l), instructions)
	}
}

// TestLongFlows holds flows of as many twigs as there may be: 2 of them are the flow and its block.
func TestLongFlows(t *testing.T) { // P15.1, P15.3
	isLong(t, "flow f() { "+strings.Repeat("do 1 ", 1023)+"}", 1023*2+1)
	isLong(t, "flow f() { "+strings.Repeat("do fork { } ", 682)+"}", 682*4+1)
	isLong(t, "flow f() { "+strings.Repeat("while true { } ", 682)+"}", 682*3+1)
	isLong(t, "flow f() { "+strings.Repeat("if true { } else { } ", 511)+"}", 511*3+1)
	isLong(t, "flow f() { do ["+strings.Repeat("fork { }, ", 1021)+"fork { }] }", 1022*3+3)
	isLong(t, "flow f() { do call g("+strings.Repeat("1, ", 2043)+"2) }", 2047)
	isLong(t, "flow f() { do child g("+strings.Repeat("none, ", 2043)+"[]) }", 2047)
	isLong(t, "flow f() { do ["+strings.Repeat("1 or 2, ", 680)+"3] }", 680*4+4)
	isLong(t, "flow f() { "+many(99, "let v%d = 1", " ")+strings.Repeat(" v7 = v98", 924)+" }", 99*2+924*2+1)
	isLong(t, "flow f("+many(100, "p%d", ", ")+") { "+strings.Repeat("p99 = p0 ", 973)+"}", 973*2+1)
	isLong(t, "flow f("+many(100, "p%d", ", ")+") { }", 1)
	isWrong(t, of(t, "flow f("+many(101, "p%d", ", ")+") { do x }"), api.ErrLong)
	isWrong(t, append(of(t, "flow f() { "+strings.Repeat("do 1 ", 1023)+"}"), spare), api.ErrLong)
}

// TestLongest holds that no twig makes more instructions than a fork, so that the longest code of all still is code.
func TestLongest(t *testing.T) { // P15.3
	whole := api.Tree{{Op: api.OFlow, Kids: 1, Text: "f"}, {Op: api.OBlock, Kids: 1}, {Op: api.ODrop, Kids: 1}, {Op: api.OList, Kids: 1022}}
	fork := api.Tree{{Op: api.OFork, Kids: 1}, {Op: api.OBlock}}
	x := slices.Concat(whole, slices.Repeat(fork, 1022))
	hold(t, x)
	if l, _, _ := compile.Compile(x); len(x) != 2048 || len(l) != 3069 {
		t.Errorf("%d twigs: %d instructions", len(x), len(l))
	}
}

// TestDeepFlows holds flows that are as deep as they may be; the flow lies at 1, a statement of its block at 3.
func TestDeepFlows(t *testing.T) { // P15.1, P15.3
	for _, c := range []struct {
		ahead, behind string
		times         int
	}{
		{"if p { ", "}", 18},
		{"while p { ", "}", 18},
		{"if p { } else { ", "}", 18},
		{"if p { ", "} else { do 1 }", 17},
		{"do fork { ", "}", 12},
		{"while fork { ", "} { }", 12},
		{"let a = fork { ", "}", 12},
		{"return 1 == fork { ", "}", 9},
	} {
		for n := range c.times + 1 {
			hold(t, of(t, "flow f(p) { "+strings.Repeat(c.ahead, n)+strings.Repeat(c.behind, n)+" }"))
		}
	}
	for _, c := range [][2]string{{"not ", ""}, {"[", "]"}, {"call g(", ")"}, {"(1 or ", ")"}, {"(1 and ", ")"}, {"(1 == ", ")"}, {"[1, 2, ", "]"}} {
		for n := range 37 {
			hold(t, of(t, "flow f(p) { do "+strings.Repeat(c[0], n)+"p"+strings.Repeat(c[1], n)+" }"))
		}
	}
	hold(t, of(t, "flow f(p) { do p"+strings.Repeat(" or p", 36)+" }"))
	x := of(t, "flow f(p) { do "+strings.Repeat("not ", 36)+"p }")
	last := len(x) - 1
	isWrong(t, append(x[:last:last], api.Twig{Op: api.ONot, Kids: 1}, x[last]), api.ErrLong)
}

// TestLongTexts holds the greatest fields.
func TestLongTexts(t *testing.T) { // P15.1, P15.3
	name, text := strings.Repeat("n", 24), strings.Repeat("\x00", 4095)
	x := of(t, "flow f() { do call "+name+"() do take "+name+" do child "+name+"(9223372036854775807) }")
	x = append(x, api.Twig{Op: api.ODrop, Kids: 1}, api.Twig{Op: api.OText, Text: text})
	x[1].Kids++
	hold(t, x)
	isCode(t, x, []api.Instr{{Op: api.ICall, Text: name}, {Op: api.IDrop}, {Op: api.ITake, Text: name}, {Op: api.IDrop}, {Op: api.IInt, Int: 1<<63 - 1}, {Op: api.IChild, A: 1, Text: name}, {Op: api.IDrop}, {Op: api.IText, Text: text}, {Op: api.IDrop}, {Op: api.IEnd}}, 0)
	x[len(x)-1].Text += "1"
	isWrong(t, x, api.ErrShape)
}
