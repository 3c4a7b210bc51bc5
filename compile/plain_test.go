package compile_test

import (
	"slices"
	"strconv"
	"strings"
	"testing"

	"prompter/api"
	"prompter/check"
	"prompter/instr"
)

// row is the chapter's row of a twig of that Op with so many parts: words of instructions, each with what its A is, and a, b, c for parts, * for all of them. What is told of their A: a place (@a: where the part a begins, @end: behind all this), slot, or # for how many parts.
func row(op byte, parts int) string {
	switch op {
	case api.OFlow:
		return "*; end"
	case api.OParam:
		return ""
	case api.OBlock:
		return "*"
	case api.OLet, api.OSet:
		return "a; store slot"
	case api.ODrop:
		return "a; drop"
	case api.OReturn:
		return "a; return"
	case api.OFail:
		return "a; fail"
	case api.OSleep:
		return "a; sleep"
	case api.OIf:
		if parts == 2 {
			return "a; branch @end; b"
		}
		return "a; branch @c; b; jump @end; c"
	case api.OWhile:
		return "a; branch @end; b; jump @a"
	case api.OName:
		return "load slot"
	case api.OList:
		return "*; list #"
	case api.OCall:
		return "*; call #"
	case api.OChild:
		return "*; child #"
	case api.OOr:
		return "a; or @end; b; bool"
	case api.OAnd:
		return "a; and @end; b; bool"
	case api.OFork:
		return "fork @a; jump @end; a; end"
	}
	words := map[byte]string{
		api.ONone: "none", api.OTrue: "true", api.OFalse: "false", api.OVersion: "version", api.OInt: "int", api.OText: "text",
		api.OTimer: "timer", api.OAwait: "await", api.OSettle: "settle", api.OTake: "take",
		32: "eq", 33: "ne", 34: "lt", 35: "le", 36: "add", 37: "sub", 38: "mul", 39: "div", 40: "mod", 41: "num", 42: "at",
		43: "not", 44: "neg", 45: "len", 46: "re", 47: "im", 48: "conj",
	}
	return "*; " + words[op]
}

// numbers are the instructions' Ops by their words.
func numbers() map[string]byte {
	m := map[string]byte{}
	for op := range 256 {
		m[instr.Word(byte(op))] = byte(op)
	}
	return m
}

// reader reads a tree by the chapter's rows.
type reader struct {
	x     api.Tree
	slots []int
	ops   map[string]byte
}

// plain is the code of a flow whose names are right.
func plain(x api.Tree) []api.Instr {
	slots, _, _ := check.Slots(x)
	l, _ := reader{x, slots, numbers()}.code(0)
	return l
}

// code is the code of the tree at a place, as if it stood alone, and the place behind that tree.
func (r reader) code(at int) (l []api.Instr, behind int) {
	var parts [][]api.Instr
	behind = at + 1
	for range r.x[at].Kids {
		var part []api.Instr
		part, behind = r.code(behind)
		parts = append(parts, part)
	}
	words := strings.Split(row(r.x[at].Op, len(parts)), "; ")
	places := map[string]int{}
	n := 0
	for _, w := range words { // where all stands
		places["@"+w] = n
		n += len(r.laid(w, at, parts, nil))
	}
	places["@end"] = n
	for _, w := range words {
		l = append(l, moved(r.laid(w, at, parts, places), len(l))...)
	}
	return l, behind
}

// laid is what a word of a row stands for; its own targets are told from where it begins.
func (r reader) laid(word string, at int, parts [][]api.Instr, places map[string]int) []api.Instr {
	switch word {
	case "":
		return nil
	case "a", "b", "c":
		return parts[word[0]-'a']
	case "*":
		var l []api.Instr
		for _, part := range parts {
			l = append(l, moved(part, len(l))...)
		}
		return l
	}
	op, a, _ := strings.Cut(word, " ")
	in := api.Instr{Op: r.ops[op]}
	switch {
	case a == "slot":
		in.A = r.slots[at]
	case a == "#":
		in.A = len(parts)
	case a != "" && places != nil:
		in.A = places[a] - places["@"+word]
	}
	if op == "int" {
		in.Int = r.x[at].Int
	}
	if slices.Contains([]string{"text", "call", "child", "take"}, op) {
		in.Text = r.x[at].Text
	}
	return []api.Instr{in}
}

// moved is l, all of whose targets lie so much further behind.
func moved(l []api.Instr, by int) []api.Instr {
	l = slices.Clone(l)
	for i := range l {
		switch l[i].Op {
		case api.IJump, api.IBranch, api.IOr, api.IAnd, api.IFork:
			l[i].A += by
		}
	}
	return l
}

// count is how many twigs of x have that Op.
func count(x api.Tree, op byte) (n int) {
	for _, y := range x {
		if y.Op == op {
			n++
		}
	}
	return n
}

// isFit fails unless l, the code of x, is right, and has what its tree says.
func isFit(t *testing.T, x api.Tree, l []api.Instr) {
	t.Helper()
	params, made := count(x, api.OParam), count(x, api.OParam)+count(x, api.OLet)
	slots, _, at, e := instr.Check(l, params)
	if slots != made || at != 0 || e != api.OK {
		t.Fatalf("%s: Check of its code %s: %d slots of %d; %d, %d", short(x), short(l), slots, made, at, e)
	}
	forks, ends := 0, 0
	for _, in := range l {
		switch in.Op {
		case api.IFork:
			forks++
		case api.IEnd:
			ends++
		}
	}
	if want := count(x, api.OFork); forks != want || ends != want+1 || l[len(l)-1].Op != api.IEnd || len(l) > 8192 {
		t.Fatalf("%s: %d forks and %d ends in %d instructions: %s", short(x), forks, ends, len(l), strconv.Quote(short(l)))
	}
}
