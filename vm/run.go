package vm

import (
	"slices"

	"prompter/api"
	"prompter/value"
)

// ofStrand is the kind of a strand's handle.
const ofStrand = 0

// handle is what a strand may wait for.
type handle struct {
	kind  byte // of the order that made it
	open  bool
	value api.Value // what it is done with
	code  int64     // what it is broken with; 0 if it is not
}

// goOn goes on in rounds, until no strand can.
func (m *Machine) goOn() {
	table := deeds()
	for went := true; went; {
		went = false
		// Those that are made meanwhile have their turn in the same round.
		for i := 0; i < len(m.strands); i++ {
			if m.strands[i].goOn(&table) {
				went = true
			}
		}
	}
	if m.closed { // nothing is open then, and nobody asks any more for what a run needs to go on
		m.code, m.strands, m.handles, m.rows = nil, nil, nil, nil
	}
}

// hear takes what a feed says, if that may be.
func (m *Machine) hear(x api.Event) api.Errno {
	switch {
	case !isFeed(x):
		return api.ErrShape
	case m.closed:
		return api.ErrFull
	}
	said := slices.Clone(x.Value)
	if x.Kind == api.EvSignaled {
		m.rows[x.Name] = append(m.rows[x.Name], said)
		return api.OK
	}
	if x.Id < 0 || x.Id >= len(m.handles) || !ends(x.Kind, m.handles[x.Id].kind) {
		return api.ErrNone
	}
	if !m.handles[x.Id].open {
		return api.ErrThere
	}
	if x.Kind == api.EvFired {
		said = value.None()
	}
	m.handles[x.Id] = handle{kind: m.handles[x.Id].kind, value: said, code: x.Int}
	return api.OK
}

// isFeed tells whether x is a feed, and has just the fields of its kind.
func isFeed(x api.Event) bool {
	switch x.Kind {
	case api.EvDone:
		return x.Name == "" && value.Check(x.Value) == api.OK && x.Int == 0
	case api.EvBroke:
		return x.Name == "" && len(x.Value) == 0 && x.Int > 0
	case api.EvFired:
		return x.Name == "" && len(x.Value) == 0 && x.Int == 0
	case api.EvSignaled:
		return x.Id == 0 && value.Name(x.Name) && value.Check(x.Value) == api.OK && x.Int == 0
	}
	return false
}

// ends tells whether a feed of that kind ends a handle that was made by such an order.
func ends(feed, order byte) bool {
	if feed == api.EvFired {
		return order == api.EvTimed
	}
	return order == api.EvCalled || order == api.EvAsked
}

// begin makes a strand that begins at that place, whose handle has that number.
func (m *Machine) begin(place, own int, slots []api.Value) {
	m.strands = append(m.strands, &strand{machine: m, own: own, place: place, slots: slots})
}

// newHandle makes a handle, and tells its number; it is a fault if there are too many.
func (m *Machine) newHandle(kind byte) int {
	if len(m.handles) == api.MaxHandles {
		panic(api.ErrOpen)
	}
	m.handles = append(m.handles, handle{kind: kind, open: true})
	return len(m.handles) - 1
}

// order makes the order x with a new handle, and tells its number.
func (m *Machine) order(x api.Event) int {
	x.Id = m.newHandle(x.Kind)
	m.orders = append(m.orders, x)
	return x.Id
}

// close makes the run's last order.
func (m *Machine) close(x api.Event) {
	m.orders = append(m.orders, x)
	m.closed = true
}

// pay counts a step; it is a fault if there is no fuel for it.
func (m *Machine) pay() {
	if m.steps == m.fuel {
		panic(api.ErrFuel)
	}
	m.steps++
}
