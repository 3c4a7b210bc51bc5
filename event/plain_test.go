package event_test

import (
	"encoding/binary"
	"fmt"
	"regexp"
	"slices"
	"strings"

	"prompter/api"
	"prompter/code"
	"prompter/value"
)

// table is the chapter's: of each event its Kind and the fields that it has, in the order of their bytes.
const table = `
	1 name list from-0
	2 count
	3 id name list
	4 id from-0
	5 id name list
	6 value
	7 value
	8 from-1
	9 id value
	10 id from-1
	11 id
	12 name value
`

// rows are the table's, by their Kind.
var rows = func() map[byte][]string {
	all := map[byte][]string{}
	for line := range strings.Lines(strings.TrimSpace(table)) {
		var kind byte
		fmt.Sscan(line, &kind)
		all[kind] = strings.Fields(line)[1:]
	}
	return all
}()

// plainName is the form of a name.
var plainName = regexp.MustCompile(`\A[a-z][a-z0-9_]{0,23}\z`)

// plainRight tells whether x is right: its fields are as the table says, and what is left, when these are taken away, is nothing.
func plainRight(x api.Event) bool {
	row, is := rows[x.Kind]
	for _, f := range row {
		switch f {
		case "id":
			is = is && x.Id >= 0 && x.Id <= 499
			x.Id = 0
		case "name":
			is = is && plainName.MatchString(x.Name)
			x.Name = ""
		case "value", "list":
			is = is && value.Check(x.Value) == api.OK && (f == "value" || x.Value[0].Kind == 5)
			x.Value = nil
		default:
			is = is && map[string]bool{"from-0": x.Int >= 0, "from-1": x.Int >= 1, "count": x.Int >= 0 && x.Int <= 501}[f]
			x.Int = 0
		}
	}
	return is && x.Id == 0 && x.Name == "" && len(x.Value) == 0 && x.Int == 0
}

// The kinds of events of which the chapter speaks together.
var (
	orders  = []byte{3, 4, 5, 6, 7, 8}
	last    = []byte{6, 7, 8}
	asking  = []byte{3, 4, 5}
	answers = []byte{9, 10, 11}
)

// has tells whether one of l has one of the kinds, and that Id, if it is not below 0.
func has(l []api.Event, id int, kinds ...byte) bool {
	return slices.ContainsFunc(l, func(x api.Event) bool {
		return slices.Contains(kinds, x.Kind) && (id < 0 || x.Id == id)
	})
}

// plainDue is how many orders must still come behind l, in which all stands as it may.
func plainDue(l []api.Event) int {
	for i := len(l) - 1; i >= 0; i-- {
		if l[i].Kind == 2 {
			return max(0, int(l[i].Int)-(len(l)-1-i))
		}
	}
	return 0
}

// plainStands tells whether x may stand behind l: the chapter's four rules.
func plainStands(l []api.Event, x api.Event) bool {
	switch due := plainDue(l); {
	case (len(l) == 0) != (x.Kind == 1):
		return false
	case slices.Contains(orders, x.Kind) != (due > 0), slices.Contains(last, x.Kind) && due != 1, has(l, -1, last...):
		return false
	}
	switch x.Kind {
	case 3, 4, 5:
		return !slices.ContainsFunc(l, func(y api.Event) bool { return slices.Contains(asking, y.Kind) && y.Id >= x.Id })
	case 9, 10:
		return has(l, x.Id, 3, 5) && !has(l, x.Id, answers...)
	case 11:
		return has(l, x.Id, 4) && !has(l, x.Id, answers...)
	}
	return true
}

// plainForm is what Form is to answer.
func plainForm(l []api.Event) (int, api.Errno) {
	if len(l) > 4096 {
		return 4096, api.ErrLong
	}
	for i, x := range l {
		if !plainRight(x) || !plainStands(l[:i], x) {
			return i, api.ErrShape
		}
	}
	if plainDue(l) > 0 {
		return len(l), api.ErrShort
	}
	return 0, api.OK
}

// plainOpen is what is open of l, which has form.
func plainOpen(l []api.Event) (open []int) {
	for id := range 500 {
		if has(l, id, asking...) && !has(l, id, answers...) {
			open = append(open, id)
		}
	}
	return open
}

// plainBytes is the bytes of a right event.
func plainBytes(x api.Event) []byte {
	b := []byte{x.Kind}
	for _, f := range rows[x.Kind] {
		switch f {
		case "id":
			b = binary.AppendUvarint(b, uint64(x.Id))
		case "name":
			b = append(append(b, byte(len(x.Name))), x.Name...)
		case "value", "list":
			v, _ := code.PutValue(x.Value)
			b = append(b, v...)
		default:
			b = binary.AppendVarint(b, x.Int)
		}
	}
	return b
}

// plainPack is the bytes of right events.
func plainPack(l []api.Event) []byte {
	b := binary.AppendUvarint(nil, uint64(len(l)))
	for _, x := range l {
		b = append(b, plainBytes(x)...)
	}
	return b
}

// plainRead is what Read is to answer.
func plainRead(b []byte) (x api.Event, at int, e api.Errno) {
	if len(b) == 0 {
		return x, 0, api.ErrShort
	}
	x.Kind, at = b[0], 1
	for _, f := range rows[x.Kind] {
		n := 0
		switch f {
		case "id":
			var id uint64
			id, n, e = code.ReadUint(b[at:])
			x.Id = int(min(id, 1<<62))
		case "name":
			x.Name, n, e = code.ReadText(b[at:])
		case "value", "list":
			x.Value, n, e = code.ReadValue(b[at:])
		default:
			x.Int, n, e = code.ReadInt(b[at:])
		}
		at += n
		if e != api.OK {
			return api.Event{}, at, e
		}
	}
	if !plainRight(x) {
		return api.Event{}, 0, api.ErrShape
	}
	return x, at, api.OK
}

// plainUnpack is what Unpack is to answer.
func plainUnpack(b []byte) (l []api.Event, at int, e api.Errno) {
	count, at, e := code.ReadUint(b)
	switch {
	case e != api.OK:
		return nil, at, e
	case count > 4096:
		return nil, 0, api.ErrLong
	}
	for range count {
		x, n, e := plainRead(b[at:])
		at += n
		if e != api.OK {
			return nil, at, e
		}
		l = append(l, x)
	}
	if at < len(b) {
		return nil, at, api.ErrShape
	}
	return l, at, api.OK
}

// equal tells whether x and y are the same right events, or both have no fields.
func equal(x, y api.Event) bool {
	return x.Kind == y.Kind && x.Id == y.Id && x.Name == y.Name && x.Int == y.Int && slices.Equal(x.Value, y.Value)
}

// short is some of what is told of events.
func short(l ...api.Event) string {
	return fmt.Sprintf("%.400s", fmt.Sprint(l))
}
