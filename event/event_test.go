package event_test

import (
	"math"
	"slices"
	"strings"
	"testing"

	"prompter/api"
	"prompter/event"
)

// Values, right ones and others.
var (
	nought = api.Value{{}}
	seven  = api.Value{{Kind: api.KInt, Int: 7}}
	empty  = api.Value{{Kind: api.KList}}
	pair   = api.Value{{Kind: api.KList, Kids: 2}, {Kind: api.KText, Text: "ab"}, {Kind: api.KNum, Num: complex(1, -2.5)}}
	widest = append(api.Value{{Kind: api.KList, Kids: api.MaxNodes - 1}}, make(api.Value, api.MaxNodes-1)...)
	heavy  = api.Value{{Kind: api.KList, Kids: 1}, {Kind: api.KText, Text: strings.Repeat("a", api.MaxSize-2)}}
	values = []api.Value{
		nil, {}, nought, seven, empty, pair, widest, heavy,
		{{Kind: api.KList, Kids: 1}}, {{Kind: api.KList, Kids: -1}}, {{}, {}}, {{Kind: api.KBool, Int: 2}}, {{Kind: 6}}, {{Int: 1}},
		{{Kind: api.KNum, Num: complex(0, math.Copysign(0, -1))}}, {{Kind: api.KNum, Num: complex(math.NaN(), 0)}},
		append(slices.Clone(widest), api.Node{}), append(api.Value{{Kind: api.KList, Kids: api.MaxNodes}}, make(api.Value, api.MaxNodes)...),
		{{Kind: api.KList, Kids: 1}, {Kind: api.KText, Text: strings.Repeat("a", api.MaxSize-1)}}, {{Kind: api.KText, Text: strings.Repeat("a", api.MaxSize)}},
	}
)

// Events that most tests need.
func started() api.Event { return api.Event{Kind: api.EvStarted, Name: "f", Value: empty, Int: 1} }

func decided(n int64) api.Event { return api.Event{Kind: api.EvDecided, Int: n} }

func called(id int) api.Event {
	return api.Event{Kind: api.EvCalled, Id: id, Name: "pay", Value: pair}
}

func asked(id int) api.Event { return api.Event{Kind: api.EvAsked, Id: id, Name: "g", Value: empty} }

func timed(id int) api.Event { return api.Event{Kind: api.EvTimed, Id: id, Int: 5} }

func returned() api.Event { return api.Event{Kind: api.EvReturned, Value: nought} }

func failed() api.Event { return api.Event{Kind: api.EvFailed, Value: seven} }

func faulted() api.Event { return api.Event{Kind: api.EvFaulted, Int: 130} }

func done(id int) api.Event { return api.Event{Kind: api.EvDone, Id: id, Value: seven} }

func broke(id int) api.Event { return api.Event{Kind: api.EvBroke, Id: id, Int: 5} }

func fired(id int) api.Event { return api.Event{Kind: api.EvFired, Id: id} }

func signaled() api.Event { return api.Event{Kind: api.EvSignaled, Name: "go", Value: pair} }

// samples are right events, each Kind with the least and the greatest that its fields may have.
func samples() []api.Event {
	long := strings.Repeat("z", api.MaxName)
	return []api.Event{
		started(), {Kind: api.EvStarted, Name: long, Value: widest}, {Kind: api.EvStarted, Name: "a_9", Value: heavy, Int: math.MaxInt64},
		decided(0), decided(1), decided(501),
		called(0), {Kind: api.EvCalled, Id: 499, Name: long, Value: empty}, {Kind: api.EvCalled, Id: 127, Name: "a", Value: widest},
		asked(0), {Kind: api.EvAsked, Id: 499, Name: long, Value: pair}, {Kind: api.EvAsked, Id: 128, Name: "a", Value: heavy},
		timed(0), {Kind: api.EvTimed, Id: 499}, {Kind: api.EvTimed, Id: 7, Int: math.MaxInt64},
		returned(), {Kind: api.EvReturned, Value: pair}, {Kind: api.EvReturned, Value: widest},
		failed(), {Kind: api.EvFailed, Value: heavy}, {Kind: api.EvFailed, Value: empty},
		faulted(), {Kind: api.EvFaulted, Int: 1}, {Kind: api.EvFaulted, Int: math.MaxInt64},
		done(0), {Kind: api.EvDone, Id: 499, Value: pair}, broke(0), {Kind: api.EvBroke, Id: 499, Int: 1}, {Kind: api.EvBroke, Int: math.MaxInt64},
		fired(0), fired(499), signaled(), {Kind: api.EvSignaled, Name: long, Value: nought},
	}
}

// fills hands over events of all kinds, each field filled with each of what it may and may not have.
func fills(do func(x api.Event)) {
	names := []string{"", "a", "z_0", strings.Repeat("a", 24), strings.Repeat("a", 25), "A", "1a", "_a", "a b", "é"}
	for _, kind := range []byte{0, 1, 2, 3, 4, 5, 6, 7, 8, 9, 10, 11, 12, 13, 14, 128, 255} {
		for _, id := range []int{0, 1, 499, 500, -1, math.MaxInt, math.MinInt} {
			for _, name := range names {
				for _, v := range values {
					for _, n := range []int64{0, 1, 2, 500, 501, 502, -1, math.MaxInt64, math.MinInt64} {
						do(api.Event{Kind: kind, Id: id, Name: name, Value: v, Int: n})
					}
				}
			}
		}
	}
}

func TestCheck(t *testing.T) { // P17.1
	for _, x := range samples() {
		if e := event.Check(x); e != api.OK {
			t.Errorf("Check of %s: %d", short(x), e)
		}
		for _, y := range []api.Event{{Id: 1}, {Id: -x.Id - 1}, {Id: 500}, {Name: "A"}, {Name: x.Name + "!"}, {Value: api.Value{{Int: 1}}}, {Value: append(slices.Clone(x.Value), api.Node{})}, {Int: -1}} {
			wrong := x
			wrong.Id += y.Id
			wrong.Name += y.Name
			wrong.Value = append(slices.Clone(x.Value), y.Value...)
			wrong.Int = min(wrong.Int, y.Int)
			if e := event.Check(wrong); (e == api.OK) != plainRight(wrong) || e != api.OK && e != api.ErrShape {
				t.Errorf("Check of %s: %d", short(wrong), e)
			}
		}
	}
	fills(func(x api.Event) {
		want := api.ErrShape
		if plainRight(x) {
			want = api.OK
		}
		if e := event.Check(x); e != want {
			t.Fatalf("Check of %s: %d", short(x), e)
		}
	})
	for kind := range 256 { // of an unknown one no fields are right
		x := api.Event{Kind: byte(kind)}
		if e := event.Check(x); (e == api.OK) != (kind == api.EvDecided || kind == api.EvTimed || kind == api.EvFired) {
			t.Errorf("Check of %s: %d", short(x), e)
		}
	}
}

// changes are events each of which differs from x in one field.
func changes(x api.Event) []api.Event {
	l := slices.Repeat([]api.Event{x}, 11)
	l[0].Kind++
	l[1].Id++
	l[2].Id += 1 << 40
	l[3].Name += "a"
	l[4].Int = ^x.Int
	l[5].Int ^= 1 << 40
	l[6].Value = append(slices.Clone(x.Value), api.Node{})
	for i, change := range []func(n *api.Node){func(n *api.Node) { n.Kind++ }, func(n *api.Node) { n.Kids++ }, func(n *api.Node) { n.Text += "a" }, func(n *api.Node) { n.Num += 1i }} {
		l[7+i].Value = slices.Clone(l[6].Value)
		change(&l[7+i].Value[len(x.Value)])
	}
	for i := range x.Value {
		for _, change := range []func(n *api.Node){func(n *api.Node) { n.Int++ }, func(n *api.Node) { n.Num += 1 }} {
			y := x
			y.Value = slices.Clone(x.Value)
			change(&y.Value[i])
			l = append(l, y)
		}
	}
	return l
}

// isSame fails unless Same answers that, whichever of both comes first.
func isSame(t *testing.T, a, b []api.Event, want bool) {
	t.Helper()
	if event.Same(a, b) != want || event.Same(b, a) != want {
		t.Errorf("Same of %s and %s: not %t", short(a...), short(b...), want)
	}
}

func TestSame(t *testing.T) { // P17.3
	l := samples()
	isSame(t, nil, nil, true)
	isSame(t, nil, []api.Event{}, true)
	isSame(t, nil, []api.Event{{}}, false)
	isSame(t, l, samples(), true)
	for i, x := range l {
		isSame(t, l[:i], l, false)
		isSame(t, l[i:i+1], []api.Event{x}, true)
		for j, y := range l {
			isSame(t, []api.Event{x}, []api.Event{y}, i == j)
			isSame(t, []api.Event{x, y}, []api.Event{y, x}, i == j)
		}
		if len(x.Value) > 9 {
			continue
		}
		for _, y := range changes(x) {
			other := slices.Clone(l)
			other[i] = y
			isSame(t, l, other, false)
			isSame(t, other, slices.Clone(other), true)
		}
		if len(x.Value) == 0 {
			other := slices.Clone(l)
			other[i].Value = api.Value{}
			isSame(t, l, other, true)
		}
	}
}

// TestSameWrong holds what is not right: that is the same as itself alone too.
func TestSameWrong(t *testing.T) { // P17.3
	var l []api.Event
	for _, v := range values[2:] {
		l = append(l, api.Event{Kind: 99, Id: -1, Name: "A", Value: v, Int: -1})
	}
	l = append(l, api.Event{Value: api.Value{{Num: complex(0, 0)}}}, api.Event{Value: api.Value{{Num: complex(math.Copysign(0, -1), 0)}}}, api.Event{Value: api.Value{{Num: complex(0, math.NaN())}}})
	for i, x := range l {
		for j, y := range l {
			isSame(t, []api.Event{x}, []api.Event{y}, i == j)
		}
	}
	isSame(t, l, event.Copy(l), true)
	isSame(t, make([]api.Event, 5000), event.Copy(make([]api.Event, 5000)), true)
	isSame(t, make([]api.Event, 5000), make([]api.Event, 5001), false)
}

func TestCopy(t *testing.T) { // P17.3
	for n := range len(samples()) {
		l := samples()[:n]
		if c := event.Copy(l); len(c) != n || !slices.EqualFunc(c, l, equal) {
			t.Errorf("Copy of %s: %s", short(l...), short(c...))
		}
	}
	if c := event.Copy(nil); len(c) > 0 {
		t.Errorf("Copy of none: %s", short(c...))
	}
}
