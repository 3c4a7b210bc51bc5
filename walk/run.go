package walk

import (
	"prompter/api"
	"prompter/value"
	"prompter/whole"
)

// none is no handle's number.
const none = -1

// run is a run of a flow.
type run struct {
	tree    api.Tree
	behind  []int // of each twig the place behind all its parts
	slots   []int // of each twig the slot of its variable (layer 11)
	version int64
	fuel    int // how many steps may still be done
	strands []*strand
	handles []handle
	rows    map[string][]api.Value // the signals that have come and were not taken, by their names
	orders  []api.Event
	closed  bool
}

// handle is what a strand may wait for.
type handle struct {
	kind  byte // of the order that made it; 0 of a strand's
	open  bool
	value api.Value // what it is done with
	code  int64     // what it is broken with; 0 if it is not
}

// goOn goes on in rounds, until no strand can.
func (r *run) goOn() {
	for went := true; went; {
		went = false
		// Those that are made meanwhile have their turn in the same round.
		for i := 0; i < len(r.strands); i++ {
			if r.strands[i].goOn() {
				went = true
			}
		}
	}
}

// hear takes what a feed says, if that may be.
func (r *run) hear(x api.Event) api.Errno {
	switch {
	case !isFeed(x):
		return api.ErrShape
	case r.closed:
		return api.ErrFull
	case x.Kind == api.EvSignaled:
		r.rows[x.Name] = append(r.rows[x.Name], x.Value)
		return api.OK
	case x.Id < 0 || x.Id >= len(r.handles) || !ends(x.Kind, r.handles[x.Id].kind):
		return api.ErrNone
	case !r.handles[x.Id].open:
		return api.ErrThere
	}
	h := handle{kind: r.handles[x.Id].kind, value: x.Value, code: x.Int}
	if x.Kind == api.EvFired {
		h.value = value.None()
	}
	r.handles[x.Id] = h
	return api.OK
}

// isFeed tells whether x is a feed, and has just the fields of its kind.
func isFeed(x api.Event) bool {
	switch x.Kind {
	case api.EvDone:
		return x.Name == "" && value.Check(x.Value) == api.OK && x.Int == 0
	case api.EvBroke:
		return x.Name == "" && len(x.Value) == 0 && x.Int > 0
	case api.EvFired:
		return x.Name == "" && len(x.Value) == 0 && x.Int == 0
	case api.EvSignaled:
		return x.Id == 0 && value.Name(x.Name) && value.Check(x.Value) == api.OK && x.Int == 0
	}
	return false
}

// ends tells whether a feed of that kind ends a handle that was made by such an order.
func ends(feed, order byte) bool {
	if feed == api.EvFired {
		return order == api.EvTimed
	}
	return order == api.EvCalled || order == api.EvAsked
}

// newStrand makes a strand that begins with the twig at that place.
func (r *run) newStrand(place, own int) *strand {
	last, _ := whole.Most(r.slots)
	s := &strand{run: r, own: own, slots: make([]api.Value, last+1)}
	s.enter(place)
	r.strands = append(r.strands, s)
	return s
}

// newHandle makes a handle, and tells its number.
func (r *run) newHandle(kind byte) (int, api.Errno) {
	if len(r.handles) == api.MaxHandles {
		return 0, api.ErrOpen
	}
	r.handles = append(r.handles, handle{kind: kind, open: true})
	return len(r.handles) - 1, api.OK
}

// order makes the order x with a new handle, and tells its number.
func (r *run) order(x api.Event) (int, api.Errno) {
	own, e := r.newHandle(x.Kind)
	if e != api.OK {
		return 0, e
	}
	x.Id = own
	r.orders = append(r.orders, x)
	return own, api.OK
}

// close makes the run's last order.
func (r *run) close(x api.Event) {
	r.orders = append(r.orders, x)
	r.closed = true
}

// fault closes the run with a fault.
func (r *run) fault(code int64) {
	r.close(api.Event{Kind: api.EvFaulted, Int: code})
}

// part is where that part of the twig at that place begins.
func (r *run) part(place, number int) int {
	next := place + 1
	for range number {
		next = r.behind[next]
	}
	return next
}
