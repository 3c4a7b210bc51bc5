package compile

import "prompter/api"

// compiler goes through the tree of a flow whose names are right, and writes its code.
type compiler struct {
	emitter
	twigs []api.Twig // those that were not gone through
	slots []int      // theirs
}

// part writes the code of the tree whose first twig is the next one.
func (c *compiler) part() {
	x, slot := c.twigs[0], c.slots[0]
	c.twigs, c.slots = c.twigs[1:], c.slots[1:]
	switch x.Op {
	case api.OFlow:
		c.parts(x.Kids)
		c.op(api.IEnd)
	case api.OParam, api.OBlock:
		c.parts(x.Kids)
	case api.OLet, api.OSet:
		c.part()
		c.put(api.Instr{Op: api.IStore, A: slot})
	case api.OName:
		c.put(api.Instr{Op: api.ILoad, A: slot})
	case api.OIf:
		c.choice(x.Kids)
	case api.OWhile:
		c.loop()
	case api.OOr:
		c.either(api.IOr)
	case api.OAnd:
		c.either(api.IAnd)
	case api.OFork:
		c.fork()
	default:
		c.parts(x.Kids)
		c.put(lone(x))
	}
}

// parts writes the code of the next so many trees.
func (c *compiler) parts(n int) {
	for range n {
		c.part()
	}
}

// choice writes the code of an OIf of two or three parts.
func (c *compiler) choice(parts int) {
	c.part()
	if parts == 2 {
		defer c.hole(api.IBranch)()
	} else {
		defer c.then()()
	}
	c.part()
}

// then writes the code of the block that has another one behind it, which it passes by: end is to be called behind that one.
func (c *compiler) then() (end func()) {
	defer c.hole(api.IBranch)()
	c.part()
	return c.hole(api.IJump)
}

// loop writes the code of an OWhile.
func (c *compiler) loop() {
	start := c.here()
	c.part()
	defer c.hole(api.IBranch)()
	c.part()
	c.goTo(api.IJump, start)
}

// either writes the code of an OOr or OAnd, whose second part op may pass by.
func (c *compiler) either(op byte) {
	c.part()
	defer c.hole(op)()
	c.part()
	c.op(api.IBool)
}

// fork writes the code of an OFork: who forks passes the strand's code by.
func (c *compiler) fork() {
	c.goTo(api.IFork, c.here()+2) // behind this and the jump
	defer c.hole(api.IJump)()
	c.part()
	c.op(api.IEnd)
}

// ops are instructions' Ops, each at the place of the Op of a twig that has just that one, behind the code of its parts.
var ops = [...]byte{
	api.OReturn: api.IReturn, api.OFail: api.IFail, api.OSleep: api.ISleep, api.ODrop: api.IDrop,
	api.ONone: api.INone, api.OTrue: api.ITrue, api.OFalse: api.IFalse, api.OInt: api.IInt, api.OText: api.IText, api.OList: api.IList,
	api.OEq: api.OEq, api.ONe: api.ONe, api.OLt: api.OLt, api.OLe: api.OLe, api.OAdd: api.OAdd, api.OSub: api.OSub, api.OMul: api.OMul,
	api.ODiv: api.ODiv, api.OMod: api.OMod, api.ONum: api.ONum, api.OAt: api.OAt,
	api.ONot: api.ONot, api.ONeg: api.ONeg, api.OLen: api.OLen, api.ORe: api.ORe, api.OIm: api.OIm, api.OConj: api.OConj,
	api.OCall: api.ICall, api.OChild: api.IChild, api.OTimer: api.ITimer, api.OAwait: api.IAwait, api.OSettle: api.ISettle,
	api.OTake: api.ITake, api.OVersion: api.IVersion,
}

// lone is the one instruction of such a twig.
func lone(x api.Twig) api.Instr {
	in := api.Instr{Op: ops[x.Op], Int: x.Int, Text: x.Text}
	switch x.Op {
	case api.OList, api.OCall, api.OChild: // these alone have any number of parts
		in.A = x.Kids
	}
	return in
}
