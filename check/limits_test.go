package check_test

import (
	"fmt"
	"strings"
	"testing"

	"prompter/api"
	"prompter/check"
)

// params are so many parameters p0, p1 ..; lets are so many statements that make v0, v1 ..
func params(n int) string { return many(n, "p%d", ", ") }
func lets(n int) string   { return many(n, "let v%d = 1", " ") }

// many is that form of each number below n, with between in between.
func many(n int, form, between string) string {
	var l []string
	for i := range n {
		l = append(l, fmt.Sprintf(form, i))
	}
	return strings.Join(l, between)
}

// isFine fails unless the flow's names are right and it makes just so many variables.
func isFine(t *testing.T, s string, variables int) {
	t.Helper()
	x := of(t, s)
	l, at, e := check.Slots(x)
	if len(l) != len(x) || at != 0 || e != api.OK {
		t.Fatalf("Slots(%s): %d numbers, %d, %d", short(x), len(l), at, e)
	}
	made := 0
	for i, y := range x {
		if makes(y.Op) {
			if l[i] != made {
				t.Errorf("Slots(%s): %d of the variable %d", short(x), l[i], made)
			}
			made++
		}
	}
	if made != variables {
		t.Errorf("Slots(%s): %d variables, not %d", short(x), made, variables)
	}
	hold(t, x)
}

// isMore fails unless that error is told of the flow's twig that has this text, the last one with it.
func isMore(t *testing.T, s, text string, e api.Errno) {
	t.Helper()
	x := of(t, s)
	at := 0
	for i, y := range x {
		if y.Text == text {
			at = i
		}
	}
	isWrong(t, x, at, e)
	hold(t, x)
}

func TestMostVariables(t *testing.T) { // P11.1, P11.2
	isFine(t, "flow f("+params(100)+") { do p99 p0 = p50 }", 100)
	isMore(t, "flow f("+params(101)+") { }", "p100", api.ErrLong)
	isMore(t, "flow f("+params(101)+", p3) { do a }", "p100", api.ErrLong)
	isFine(t, "flow f() { "+lets(100)+" do v99 v0 = v50 }", 100)
	isMore(t, "flow f() { "+lets(101)+" }", "v100", api.ErrLong)
	isMore(t, "flow f() { "+lets(101)+" do a let v3 = 1 }", "v100", api.ErrLong)
	for n := range 101 {
		isFine(t, "flow f("+params(n)+") { "+lets(100-n)+" }", 100)
		isMore(t, "flow f("+params(n)+") { "+lets(100-n)+" let last = 1 }", "last", api.ErrLong)
	}
	isMore(t, "flow f("+params(500)+") { "+lets(100)+" }", "p100", api.ErrLong)
	isMore(t, "flow f("+params(2046)+") { }", "p100", api.ErrLong)
}

// TestHiddenVariables holds flows whose variables are not all seen at one twig: all count.
func TestHiddenVariables(t *testing.T) { // P11.1, P11.2
	for _, form := range []string{"if true { let a = 1 }", "if true { } else { let a = 1 do a }", "while true { let a = true a = a }", "do fork { let a = 1 }", "do [1, fork { let a = fork { } }]"} {
		isFine(t, "flow f() { "+strings.Repeat(form+" ", 100)+"}", 100)
		isMore(t, "flow f() { "+strings.Repeat(form+" ", 100)+"let last = 1 }", "last", api.ErrLong)
		isMore(t, "flow f() { "+strings.Repeat(form+" ", 100)+"do fork { let last = 1 } do none }", "last", api.ErrLong)
		isMore(t, "flow f() { "+strings.Repeat(form+" ", 50)+lets(50)+" "+strings.Replace(form, "let a", "let last", 1)+" }", "last", api.ErrLong)
	}
	isFine(t, "flow f(p) { let a = fork { "+lets(98)+" } do a }", 100)
	isMore(t, "flow f(p) { let a = fork { "+lets(98)+" } do a let b = 1 }", "b", api.ErrLong)
	// The variable whose value is a fork is made ahead of the fork's.
	isMore(t, "flow f(p) { let a = fork { "+lets(99)+" } }", "v98", api.ErrLong)
	isMore(t, "flow f() { "+lets(100)+" let out = fork { let in = 1 } }", "out", api.ErrLong)
}

// TestFirstFault holds the 101st variable against other faults, at the same twig and at others.
func TestFirstFault(t *testing.T) { // P11.1
	full := "flow f() { " + lets(100) + " "
	isMore(t, full+"let v7 = 1 }", "v7", api.ErrTwice)
	isMore(t, full+"let v99 = 1 }", "v99", api.ErrTwice)
	isMore(t, full+"let x = 1 let v7 = 1 }", "x", api.ErrLong)
	isMore(t, full+"let v7 = 1 let x = 1 }", "v7", api.ErrTwice)
	isMore(t, full+"let x = none_there }", "x", api.ErrLong)
	isMore(t, full+"do none_there let x = 1 }", "none_there", api.ErrName)
	isMore(t, full+"x = 1 let y = 1 }", "x", api.ErrName)
	isMore(t, full+"let x = 1 y = 1 }", "x", api.ErrLong)
	isMore(t, "flow f("+params(100)+", p4, q) { }", "p4", api.ErrTwice)
	isMore(t, "flow f("+params(100)+", q, p4) { do none_there }", "q", api.ErrLong)
	isMore(t, "flow f("+params(100)+") { let p0 = 1 }", "p0", api.ErrTwice)
	isMore(t, "flow f("+params(100)+") { let q = p0 }", "q", api.ErrLong)
}

func TestDeepFlows(t *testing.T) { // P11.1, P11.2
	// A statement of the flow's block lies at 3; each fork of a let lies three deeper than the one around it.
	deep := func(name string, n int) string {
		s := "1"
		for i := n; i > 0; i-- {
			s = fmt.Sprintf("fork { let %s = %s }", strings.ReplaceAll(name, "#", fmt.Sprint(i)), s)
		}
		return "flow f() { do " + s + " }"
	}
	isFine(t, deep("a", 12), 12)
	isFine(t, deep("a#", 12), 12)
	ifs := func(n int) string { return strings.Repeat("if true { ", n) + "%s" + strings.Repeat(" }", n) }
	isFine(t, "flow f(p) { "+fmt.Sprintf(ifs(18), "let a = p")+" }", 2)
	isMore(t, "flow f(p) { "+fmt.Sprintf(ifs(18), "let p = 1")+" }", "p", api.ErrTwice)
	isMore(t, "flow f() { "+fmt.Sprintf(ifs(18), "let a = 1")+" do a }", "a", api.ErrName)
	// What lies too deep is told ahead of names that are wrong.
	x := of(t, "flow f(a, a) { do "+strings.Repeat("not ", 36)+"a }")
	isWrong(t, x, 2, api.ErrTwice)
	not := api.Twig{Op: api.ONot, Kids: 1}
	last := len(x) - 1
	isWrong(t, append(x[:last:last], not, x[last]), last+1, api.ErrLong)
}

func TestLongFlows(t *testing.T) { // P11.1, P11.2, P11.3
	isFine(t, "flow f(a) { "+strings.Repeat("a = a ", 1022)+"}", 1)
	isFine(t, "flow f(a) { do ["+strings.Repeat("a, ", 2042)+"a] }", 1)
	isMore(t, "flow f(a) { do ["+strings.Repeat("a, ", 2042)+"b] }", "b", api.ErrName)
	isMore(t, "flow f() { "+strings.Repeat("do 1 ", 1020)+"do [b] }", "b", api.ErrName)
	x := of(t, "flow f(a) { do ["+strings.Repeat("a, ", 2042)+"b] }")
	isWrong(t, append(x, x[0]), 0, api.ErrLong)
	isFine(t, "flow f() { do ["+many(800, "call g%d()", ", ")+", "+strings.Repeat("take g, ", 400)+"0] }", 0)
	isFine(t, "flow f() { do ["+many(600, "take s%d", ", ")+", "+many(600, "take s%d", ", ")+"] }", 0)
	isFine(t, "flow f(a2345678901234567890123z) { let b2345678901234567890123z = a2345678901234567890123z }", 2)
	isMore(t, "flow f(a2345678901234567890123z) { do a2345678901234567890123y }", "a2345678901234567890123y", api.ErrName)
}
