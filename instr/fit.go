package instr

import (
	"slices"

	"prompter/api"
	"prompter/heap"
)

// unmet is the depth of a place that was not met.
const unmet = -1

// Check tells how many slots code needs, and how deep its stack may be; or what is wrong with it, and where.
func Check(code []api.Instr, params int) (slots, stack, at int, e api.Errno) {
	depths, at, e := check(code, params)
	if e != api.OK {
		return 0, 0, at, e
	}
	return slotsOf(code, params), slices.Max(depths), 0, api.OK
}

// Depths is how many things are on the stack ahead of each place; -1 of a place that nobody comes to.
func Depths(code []api.Instr, params int) ([]int, api.Errno) {
	depths, _, e := check(code, params)
	return depths, e
}

// check is the depths of code; or what is wrong with it, and where.
func check(code []api.Instr, params int) (depths []int, at int, e api.Errno) {
	switch {
	case params < 0 || params > api.MaxSlots:
		return nil, 0, api.ErrArg
	case len(code) > api.MaxCode:
		return nil, 0, api.ErrLong
	case len(code) == 0:
		return nil, 0, api.ErrShape
	}
	if at, are := allRight(code); !are {
		return nil, at, api.ErrShape
	}
	depths, at, fits := fit(code)
	if !fits {
		return nil, at, api.ErrStack
	}
	if at, is := circle(code, depths); is {
		return nil, at, api.ErrStack
	}
	return depths, 0, api.OK
}

// slotsOf is how many slots there must be: of the parameters, and of what is loaded and stored anywhere.
func slotsOf(code []api.Instr, params int) int {
	for _, in := range code {
		if fieldsOf(in.Op).a == aSlot {
			params = max(params, in.A+1)
		}
	}
	return params
}

// moves is how many things a right instruction takes from the stack, and how many it leaves there, as far as one goes on to the next place.
func moves(in api.Instr) (takes, leaves int) {
	switch op := in.Op; op {
	case api.IBranch, api.IOr, api.IAnd, api.IDrop, api.ISleep, api.IReturn, api.IFail, api.IStore:
		return 1, 0
	case api.IBool, api.ITimer, api.IAwait, api.ISettle, api.ONot, api.ONeg, api.OLen, api.ORe, api.OIm, api.OConj:
		return 1, 1
	case api.INone, api.ITrue, api.IFalse, api.IInt, api.IText, api.ILoad, api.IFork, api.ITake, api.IVersion:
		return 0, 1
	case api.OEq, api.ONe, api.OLt, api.OLe, api.OAdd, api.OSub, api.OMul, api.ODiv, api.OMod, api.ONum, api.OAt:
		return 2, 1
	case api.IList, api.ICall, api.IChild:
		return in.A, 1
	}
	return 0, 0 // IJump, IEnd
}

// traveller goes through code, place by place.
type traveller struct {
	code   []api.Instr
	depths []int           // of places that were met
	met    *heap.Heap[int] // the depths of those that were not gone through, by their places
}

// fit is the depths of right code, if it fits; if not, at is the place that was gone through when it was wrong first.
func fit(code []api.Instr) (depths []int, at int, fits bool) {
	t := traveller{code, slices.Repeat([]int{unmet}, len(code)), heap.New[int]()}
	t.meet(0, 0)
	for {
		place, depth, _, is := t.met.Pop()
		if !is {
			return t.depths, 0, true
		}
		if !t.through(int(place), depth) {
			return nil, int(place), false
		}
	}
}

// through goes through a place; false, if it is wrong there.
func (t *traveller) through(place, depth int) bool {
	in := t.code[place]
	takes, leaves := moves(in)
	if depth < takes {
		return false
	}
	rest := depth - takes
	next := rest + leaves
	switch in.Op {
	case api.IReturn, api.IFail, api.IEnd: // nothing may be left behind
		return rest == 0
	case api.IJump:
		return t.meet(in.A, next)
	case api.IBranch:
		return t.meet(in.A, rest) && t.meet(place+1, next)
	case api.IOr, api.IAnd: // who goes to the target has not lost what was taken
		return t.meet(in.A, depth) && t.meet(place+1, next)
	case api.IFork: // a strand of its own has a stack of its own
		return t.meet(in.A, 0) && t.meet(place+1, next)
	}
	return t.meet(place+1, next)
}

// meet meets a place with a depth; false, if there is no such place, or it was met with another depth.
func (t *traveller) meet(place, depth int) bool {
	if place == len(t.code) {
		return false
	}
	if t.depths[place] == unmet {
		t.depths[place] = depth
		t.met.Push(int64(place), depth)
	}
	return t.depths[place] == depth
}

// circle is the least place of those that were met from which there is a circle without a step; false, if there is none. The code fits.
func circle(code []api.Instr, depths []int) (at int, is bool) {
	const untried = -1
	tried := slices.Repeat([]int{untried}, len(code)) // from which place on each one was come to first
	for start, depth := range depths {
		if depth == unmet {
			continue
		}
		place := start
		for tried[place] == untried && isFree(code[place].Op) {
			tried[place] = start
			place = behind(code, place)
		}
		if tried[place] == start { // what was tried from lesser places comes to a step: this does not
			return start, true
		}
	}
	return 0, false
}

// isFree tells whether an instruction, from which one goes on to one place alone, costs no step.
func isFree(op byte) bool {
	return op == api.IJump || op == api.IBool
}

// behind is the place to which one comes from a place where an instruction is free.
func behind(code []api.Instr, place int) int {
	if code[place].Op == api.IJump {
		return code[place].A
	}
	return place + 1
}
