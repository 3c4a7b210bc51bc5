package event

import "prompter/api"

// Form is OK, if l has form, else an error and the place of what is wrong.
func Form(l []api.Event) (at int, e api.Errno) {
	_, at, e = follow(l)
	return at, e
}

// Open is what was ordered and is not answered, if l has form.
func Open(l []api.Event) []int {
	c, _, e := follow(l)
	if e != api.OK {
		return nil
	}
	var ids []int
	for id, kind := range c.open {
		if kind != 0 {
			ids = append(ids, id)
		}
	}
	return ids
}

// Ended tells whether l has form, and its last event is a last one.
func Ended(l []api.Event) bool {
	c, _, e := follow(l)
	return e == api.OK && c.ended
}

// course is what a history has come to behind its first events.
type course struct {
	kinds kinds
	begun bool
	ended bool
	due   int                  // how many orders must still come ahead of anything else
	free  int                  // the least Id that an order may have
	open  [api.MaxHandles]byte // the kinds of the orders that are open, by their Ids
}

// follow is what l has come to, and what Form tells of it.
func follow(l []api.Event) (c course, at int, e api.Errno) {
	if len(l) > api.MaxEvents {
		return c, api.MaxEvents, api.ErrLong
	}
	c.kinds = table()
	for at, x := range l {
		if !c.kinds.allow(x) || !c.takes(x) {
			return c, at, api.ErrShape
		}
	}
	if c.due > 0 {
		return c, len(l), api.ErrShort
	}
	return c, 0, api.OK
}

// takes goes on by the right event x; false, if it may not stand there, behind which c tells nothing more.
func (c *course) takes(x api.Event) bool {
	if c.ended || c.begun == (x.Kind == api.EvStarted) || (c.due > 0) != isOrder(x.Kind) {
		return false
	}
	switch x.Kind {
	case api.EvStarted:
		c.begun = true
	case api.EvDecided:
		c.due = int(x.Int)
	case api.EvCalled, api.EvTimed, api.EvAsked:
		return c.opens(x)
	case api.EvReturned, api.EvFailed, api.EvFaulted:
		return c.ends()
	case api.EvDone, api.EvBroke, api.EvFired:
		return c.answers(x)
	}
	return true
}

// opens takes an order that has an Id; false, if that may not be.
func (c *course) opens(x api.Event) bool {
	if x.Id < c.free {
		return false
	}
	c.due--
	c.free = x.Id + 1
	c.open[x.Id] = x.Kind
	return true
}

// ends takes a last order; false, if others must still come.
func (c *course) ends() bool {
	c.due--
	c.ended = true
	return c.due == 0
}

// answers takes what an order came to; false, if there is none that is open and that x answers.
func (c *course) answers(x api.Event) bool {
	order := c.open[x.Id]
	c.open[x.Id] = 0
	return order != 0 && (order == api.EvTimed) == (x.Kind == api.EvFired)
}

// isOrder tells whether events of that kind are orders.
func isOrder(kind byte) bool {
	return api.EvCalled <= kind && kind <= api.EvFaulted
}
