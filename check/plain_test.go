package check_test

import (
	"maps"
	"slices"

	"prompter/api"
	"prompter/tree"
)

// kin are, for each twig of a right tree, the place of the twig whose part it is (-1: none), and the place behind its own tree.
func kin(t api.Tree) (above, behind []int) {
	above, behind = make([]int, len(t)), make([]int, len(t))
	var look func(at, over int) int
	look = func(at, over int) int {
		next := at + 1
		for range t[at].Kids {
			next = look(next, at)
		}
		above[at], behind[at] = over, next
		return next
	}
	look(0, -1)
	return above, behind
}

// makes tells whether a twig of that Op makes a variable, means whether it means one.
func makes(op byte) bool { return op == api.OParam || op == api.OLet }
func means(op byte) bool { return op == api.OSet || op == api.OName }

// plain is what the chapter says of the names of a flow: each twig is held against all that make a variable.
func plain(t api.Tree) (l []int, at int, e api.Errno) {
	if at, e := tree.Check(t); e != api.OK {
		return nil, at, e
	}
	if t[0].Op != api.OFlow {
		return nil, 0, api.ErrShape
	}
	above, behind := kin(t)
	made := 0
	for i, x := range t {
		slot, maker, found := -1, 0, 0
		for v, y := range t[:i] {
			isSeen := y.Op == api.OParam || y.Op == api.OLet && behind[v] <= i && i < behind[above[v]]
			if isSeen && y.Text == x.Text {
				slot = maker
				found++
			}
			if makes(y.Op) {
				maker++
			}
		}
		switch {
		case makes(x.Op) && found > 0:
			return nil, i, api.ErrTwice
		case makes(x.Op) && made == 100:
			return nil, i, api.ErrLong
		case makes(x.Op):
			slot = made
			made++
		case means(x.Op) && found == 0:
			return nil, i, api.ErrName
		case means(x.Op) && found > 1:
			panic("two variables of one name are seen")
		case !means(x.Op):
			slot = -1
		}
		l = append(l, slot)
	}
	return l, 0, api.OK
}

// plainAsks are the words of the twigs of that Op, each once, rising.
func plainAsks(t api.Tree, op byte) []string {
	words := map[string]bool{}
	for _, x := range t {
		if x.Op == op {
			words[x.Text] = true
		}
	}
	return slices.Sorted(maps.Keys(words))
}
