package fold_test

import (
	"math"
	"slices"
	"strings"
	"testing"

	"rescind/api"
	"rescind/edge"
	"rescind/fold"
	"rescind/msg"
	"rescind/pack"
	"rescind/row"
	"rescind/value"
)

const (
	most      = math.MaxInt64
	least     = math.MinInt64
	before    = -1
	forever   = 1 << 50
	last      = forever - 1
	maxID     = 1 << 40
	maxJumps  = 1 << 10
	maxPieces = 1 << 12
)

func text(s string) api.Value { return api.Value{Kind: api.Text, Text: s} }

func one(n int) api.Row { return api.Row{value.Num(n)} }

func life(from, to int) api.Span { return api.Span{From: from, To: to} }

// begin is an insert whose row is the number of its event, so that rows tell events apart.
func begin(id, from, to int) api.Msg { return msg.Begin(id, from, to, one(id)) }

// noRows are lists of values that are no rows.
func noRows() []api.Row {
	return []api.Row{{{}}, {value.Num(1), {}}, {{Kind: 3}}, {{Kind: api.Number, Text: "a"}}, {text(strings.Repeat("a", 65))}, slices.Repeat(one(0), 9), make(api.Row, 1)}
}

// noMessages are what msg.Check refuses, each with its error.
func noMessages() map[api.Errno][]api.Msg {
	bad := map[api.Errno][]api.Msg{
		api.ErrKind: {{}, {Kind: 4, ID: 1, From: 2, To: 9}, {Kind: -1}, {Kind: most}, {ID: 1, From: 2, To: 9, Row: one(1)}},
		api.ErrArg: {
			begin(0, 2, 9), begin(-1, 2, 9), begin(maxID+1, 2, 9), begin(most, 2, 9), begin(least, 2, 9), begin(0, 3, 3), begin(0, -1, 9),
			msg.End(0, 5), msg.End(-1, 5), msg.End(maxID+1, 5), msg.End(least, -1),
			{Kind: api.Retract, ID: 1, From: 2, To: 5}, {Kind: api.Retract, ID: 1, To: 5, Row: one(1)},
			{Kind: api.CTI, ID: 1, From: 5}, {Kind: api.CTI, From: 5, To: 9}, {Kind: api.CTI, From: 5, Row: one(1)}, {Kind: api.CTI, ID: 1, From: -1},
		},
		api.ErrTime: {
			begin(1, -1, 9), begin(1, 2, forever+1), begin(1, 2, -1), begin(1, most, most), begin(1, least, 9), begin(1, forever+1, 3),
			msg.End(1, -1), msg.End(1, forever+1), msg.End(1, least), msg.End(1, most),
			msg.Mark(-1), msg.Mark(forever + 1), msg.Mark(least), msg.Mark(most),
		},
		api.ErrSpan: {begin(1, 3, 3), begin(1, 9, 2), begin(1, 0, 0), begin(1, forever, forever), begin(1, forever, 0)},
	}
	for _, r := range noRows() {
		bad[api.ErrArg] = append(bad[api.ErrArg], msg.Begin(1, 2, 9, r), msg.Begin(1, 9, 2, r), msg.Begin(1, -1, 2, r))
	}
	return bad
}

// said is a message with its result.
type said struct {
	m api.Msg
	e api.Errno
}

// messages are those of a course, with what their results are to be.
func messages(l []said) ([]api.Msg, []api.Errno) {
	var made []api.Msg
	var want []api.Errno
	for _, x := range l {
		made = append(made, x.m)
		want = append(want, x.e)
	}
	return made, want
}

// P13.1: the document's examples, and each error ahead of the next, by hand.
func TestAnswers(t *testing.T) {
	five := one(5)
	courses := [][]said{
		nil,
		{{begin(1, 2, 9), api.OK}, {msg.End(1, 9), api.ErrGrow}, {msg.End(1, 1), api.ErrSpan}, {msg.End(1, 2), api.OK}, {msg.End(1, 2), api.ErrNone}},
		{{msg.Begin(1, 2, 9, five), api.OK}, {msg.End(1, 4), api.OK}, {msg.Mark(4), api.OK}, {msg.Begin(1, 6, 8, five), api.OK}},
		// the clock: what is at it is not late, what is below it is
		{{msg.Mark(0), api.OK}, {begin(1, 0, 1), api.OK}, {msg.Mark(0), api.OK}, {msg.Mark(5), api.OK}, {msg.Mark(5), api.OK}, {msg.Mark(4), api.ErrLate}, {msg.Mark(0), api.ErrLate}, {begin(2, 4, 9), api.ErrLate}, {begin(2, 0, forever), api.ErrLate}, {begin(2, 5, 6), api.OK}, {msg.Mark(6), api.OK}, {msg.Mark(5), api.ErrLate}},
		{{begin(1, 2, 9), api.OK}, {begin(2, 2, 9), api.OK}, {msg.Mark(5), api.OK}, {msg.End(1, 4), api.ErrLate}, {msg.End(1, 2), api.ErrLate}, {msg.End(1, 5), api.OK}, {msg.End(2, 6), api.OK}, {msg.End(2, 5), api.OK}, {msg.End(2, 5), api.ErrNone}},
		{{begin(1, 0, forever), api.OK}, {msg.Mark(forever), api.OK}, {msg.Mark(forever), api.OK}, {msg.Mark(last), api.ErrLate}, {begin(2, last, forever), api.ErrLate}, {msg.End(1, forever), api.ErrNone}, {begin(1, 0, 1), api.ErrLate}},
		{{begin(1, 0, forever), api.OK}, {msg.Mark(last), api.OK}, {msg.End(1, forever), api.ErrGrow}, {msg.End(1, last-1), api.ErrLate}, {msg.End(1, last), api.OK}, {begin(1, last, forever), api.OK}, {msg.End(1, last), api.OK}, {begin(1, last, forever), api.OK}},
		// a rejected CTI does not set the clock
		{{msg.Mark(5), api.OK}, {msg.Mark(3), api.ErrLate}, {begin(1, 4, 9), api.ErrLate}, {begin(1, 5, 9), api.OK}, {msg.Mark(forever + 1), api.ErrTime}, {begin(2, 5, 9), api.OK}},
		// a number is free once its event was cancelled, or the clock reached its end, and not before
		{{begin(1, 2, 9), api.OK}, {begin(1, 2, 9), api.ErrTwice}, {begin(1, 20, 30), api.ErrTwice}, {msg.End(1, 3), api.OK}, {begin(1, 3, 9), api.ErrTwice}, {begin(1, 7, 9), api.ErrTwice}, {msg.End(1, 2), api.OK}, {begin(1, 2, 9), api.OK}, {msg.End(1, 2), api.OK}, {msg.End(1, 2), api.ErrNone}, {begin(1, 0, 1), api.OK}},
		{{begin(1, 2, 9), api.OK}, {msg.Mark(8), api.OK}, {begin(1, 8, 9), api.ErrTwice}, {begin(1, 9, 12), api.ErrTwice}, {msg.Mark(9), api.OK}, {msg.End(1, 9), api.ErrNone}, {begin(1, 9, 12), api.OK}, {begin(1, 10, 12), api.ErrTwice}, {msg.Mark(15), api.OK}, {msg.End(1, 2), api.ErrNone}, {begin(1, 15, 16), api.OK}},
		{{begin(1, 2, 9), api.OK}, {msg.Mark(5), api.OK}, {begin(1, 5, 9), api.ErrTwice}, {msg.End(1, 5), api.OK}, {begin(1, 5, 9), api.OK}, {msg.End(1, 5), api.OK}, {msg.End(1, 5), api.ErrNone}},
		{{begin(1, 2, 9), api.OK}, {msg.End(1, 5), api.OK}, {msg.Mark(4), api.OK}, {begin(1, 5, 9), api.ErrTwice}, {msg.End(1, 5), api.ErrGrow}, {msg.Mark(5), api.OK}, {begin(1, 5, 9), api.OK}},
		{{begin(1, 7, 9), api.OK}, {msg.Mark(6), api.OK}, {begin(1, 6, 7), api.ErrTwice}, {msg.End(1, 7), api.OK}, {begin(1, 6, 7), api.OK}},
		// several events, and numbers
		{{begin(1, 2, 9), api.OK}, {begin(2, 2, 9), api.OK}, {msg.End(3, 5), api.ErrNone}, {msg.End(2, 5), api.OK}, {msg.End(2, 5), api.ErrGrow}, {msg.End(1, 5), api.OK}, {msg.End(1, 4), api.OK}, {msg.End(1, 5), api.ErrGrow}, {msg.End(2, 2), api.OK}, {msg.End(1, 3), api.OK}, {begin(2, 2, 3), api.OK}},
		{{begin(maxID, 2, 9), api.OK}, {begin(maxID-1, 2, 9), api.OK}, {begin(maxID, 2, 9), api.ErrTwice}, {begin(maxID+1, 2, 9), api.ErrArg}, {msg.End(maxID, 4), api.OK}},
		{{msg.Begin(1, 2, 9, nil), api.OK}, {msg.Begin(2, 2, 9, api.Row{text(""), value.Num(-3)}), api.OK}, {msg.Begin(3, 2, 9, slices.Repeat(five, 8)), api.OK}, {msg.Begin(1, 2, 9, five), api.ErrTwice}},
		// the first of two errors
		{{begin(1, 2, 9), api.OK}, {msg.Mark(4), api.OK}, {begin(1, 3, 9), api.ErrLate}, {begin(1, 2, 9), api.ErrLate}, {msg.End(2, 3), api.ErrNone}, {msg.End(1, 1), api.ErrSpan}, {msg.End(1, 0), api.ErrSpan}, {msg.End(1, 2), api.ErrLate}, {msg.End(1, 3), api.ErrLate}, {msg.End(1, 4), api.OK}},
		{{begin(1, 7, 9), api.OK}, {msg.Mark(4), api.OK}, {msg.End(1, 3), api.ErrSpan}, {msg.End(1, 6), api.ErrSpan}, {msg.End(1, 12), api.ErrGrow}, {msg.End(1, forever), api.ErrGrow}, {msg.End(1, 8), api.OK}, {msg.End(1, 9), api.ErrGrow}, {msg.End(1, 8), api.ErrGrow}, {msg.End(1, 7), api.OK}},
		{{msg.End(1, 5), api.ErrNone}, {msg.Mark(5), api.OK}, {msg.End(1, 5), api.ErrNone}, {msg.End(1, 3), api.ErrNone}, {msg.End(1, forever), api.ErrNone}},
		// a rejected insert leaves no event
		{{msg.Mark(5), api.OK}, {begin(1, 3, 9), api.ErrLate}, {msg.End(1, 7), api.ErrNone}, {begin(1, 5, 9), api.OK}},
	}
	for i, course := range courses {
		l, want := messages(course)
		if got := fold.Answers(l); !slices.Equal(got, want) {
			t.Errorf("course %d: %v, and not %v", i, got, want)
		}
	}
}

// P13.1: the error of msg.Check comes first, and such a message changes nothing.
func TestAnswersOfNoMessages(t *testing.T) {
	start := []api.Msg{begin(1, 2, 9), begin(2, 2, 20), msg.Mark(6)}
	behind := []api.Msg{begin(1, 6, 7), msg.End(1, 7), msg.Mark(6), begin(maxID, 6, 9)}
	want := []api.Errno{api.ErrTwice, api.OK, api.OK, api.OK}
	for e, bad := range noMessages() {
		for _, m := range bad {
			if got := fold.Answers([]api.Msg{m}); !slices.Equal(got, []api.Errno{e}) {
				t.Errorf("%v alone: %v, and not %v", m, got, e)
			}
			l := slices.Concat(start, []api.Msg{m}, behind)
			if got := fold.Answers(l); !slices.Equal(got[3:], append([]api.Errno{e}, want...)) {
				t.Errorf("%v: %v, and not %v", m, got, e)
			}
			without := slices.Concat(start, behind)
			if fold.Clock(l) != 6 || !sameChanges(fold.Changes(l), fold.Changes(without)) || !sameEvents(fold.Events(l), fold.Events(without)) {
				t.Errorf("%v has changed something", m)
			}
		}
	}
}

// P13.1
func TestClock(t *testing.T) {
	tests := []struct {
		l    []api.Msg
		want int
	}{
		{nil, 0},
		{[]api.Msg{begin(1, 2, 9)}, 0},
		{[]api.Msg{msg.Mark(0)}, 0},
		{[]api.Msg{msg.Mark(7)}, 7},
		{[]api.Msg{msg.Mark(7), msg.Mark(3)}, 7},
		{[]api.Msg{msg.Mark(7), msg.Mark(7), msg.Mark(8), msg.Mark(6)}, 8},
		{[]api.Msg{msg.Mark(7), begin(1, 8, 9), msg.End(1, 8), msg.End(1, 8)}, 7},
		{[]api.Msg{msg.Mark(7), begin(1, 3, 9), begin(2, 3, 20)}, 7},
		{[]api.Msg{msg.Mark(7), msg.Mark(forever + 1), msg.Mark(most), msg.Mark(-1), {Kind: api.CTI, ID: 1, From: 9}}, 7},
		{[]api.Msg{msg.Mark(forever), msg.Mark(7)}, forever},
		{[]api.Msg{msg.Mark(last)}, last},
		{[]api.Msg{{}, {Kind: 4, From: 5}}, 0},
	}
	for i, x := range tests {
		if got := fold.Clock(x.l); got != x.want {
			t.Errorf("%d: %d, and not %d", i, got, x.want)
		}
	}
}

func sameChange(a, b api.Change) bool {
	return a.Serial == b.Serial && a.Old == b.Old && a.New == b.New && row.Same(a.Row, b.Row)
}

func sameChanges(a, b []api.Change) bool { return slices.EqualFunc(a, b, sameChange) }

func sameEvent(a, b api.Event) bool {
	return a.ID == b.ID && a.Span == b.Span && row.Same(a.Row, b.Row)
}

func sameEvents(a, b []api.Event) bool { return slices.EqualFunc(a, b, sameEvent) }

func pair() api.Row { return api.Row{text("a"), value.Num(1)} }

// mixed is messages of which some are rejected, and whose numbers are used again.
func mixed() []api.Msg {
	return []api.Msg{
		msg.Mark(1),
		begin(7, 2, 9),                // serial 1
		begin(7, 3, 9),                // ErrTwice
		begin(3, 0, 9),                // ErrLate
		msg.Begin(3, 5, forever, nil), // serial 2
		msg.End(7, 6),
		msg.End(7, 6), // ErrGrow
		msg.End(3, 8),
		msg.Begin(4, 2, 5, pair()),  // serial 3
		msg.End(3, 5),               // none of it is left
		msg.Begin(3, 1, 2, one(30)), // serial 4
		{},
		msg.End(7, 4),
		msg.Mark(4),
		begin(7, 4, 5), // serial 5
		msg.End(7, 4),
		begin(7, 5, 12), // serial 6
		msg.End(4, 4),
		msg.Mark(5),
		begin(4, 5, 6), // serial 7
	}
}

// P13.1: serial numbers count accepted inserts alone; a number that is free again gets a new one.
func TestChangesAndEvents(t *testing.T) {
	none, l := api.Span{}, mixed()
	changes := []api.Change{
		{Serial: 1, Row: one(7), New: life(2, 9)},
		{Serial: 2, New: life(5, forever)},
		{Serial: 1, Row: one(7), Old: life(2, 9), New: life(2, 6)},
		{Serial: 2, Old: life(5, forever), New: life(5, 8)},
		{Serial: 3, Row: pair(), New: life(2, 5)},
		{Serial: 2, Old: life(5, 8), New: none},
		{Serial: 4, Row: one(30), New: life(1, 2)},
		{Serial: 1, Row: one(7), Old: life(2, 6), New: life(2, 4)},
		{Serial: 5, Row: one(7), New: life(4, 5)},
		{Serial: 5, Row: one(7), Old: life(4, 5), New: none},
		{Serial: 6, Row: one(7), New: life(5, 12)},
		{Serial: 3, Row: pair(), Old: life(2, 5), New: life(2, 4)},
		{Serial: 7, Row: one(4), New: life(5, 6)},
	}
	events := []api.Event{
		{ID: 7, Row: one(7), Span: life(2, 4)},
		{ID: 4, Row: pair(), Span: life(2, 4)},
		{ID: 3, Row: one(30), Span: life(1, 2)},
		{ID: 7, Row: one(7), Span: life(5, 12)},
		{ID: 4, Row: one(4), Span: life(5, 6)},
	}
	if got := fold.Changes(l); !sameChanges(got, changes) {
		t.Errorf("changes: %v, and not %v", got, changes)
	}
	if got := fold.Events(l); !sameEvents(got, events) {
		t.Errorf("events: %v, and not %v", got, events)
	}
}

// P13.1: where there is none.
func TestNoChangesAndEvents(t *testing.T) {
	for _, l := range [][]api.Msg{nil, {}, {msg.Mark(3)}, {msg.End(1, 3), {}}, {msg.Mark(3), begin(1, 2, 9)}} {
		if len(fold.Changes(l)) != 0 || len(fold.Events(l)) != 0 {
			t.Error(l, fold.Changes(l), fold.Events(l))
		}
	}
	if got := fold.Events([]api.Msg{begin(1, 2, 9), msg.End(1, 2)}); len(got) != 0 {
		t.Error(got)
	}
	if got := fold.Events([]api.Msg{begin(1, 2, 9), msg.Mark(forever)}); !sameEvents(got, []api.Event{{ID: 1, Row: one(1), Span: life(2, 9)}}) {
		t.Error(got)
	}
}

// P13.1: what is accepted at 0 is an event like others, though its lifetime begins where none does.
func TestFromZero(t *testing.T) {
	l := []api.Msg{begin(1, 0, 9), begin(2, 0, 1), msg.End(1, 1), begin(3, 0, forever), msg.End(2, 0), begin(2, 0, 5)}
	want := []api.Event{{ID: 1, Row: one(1), Span: life(0, 1)}, {ID: 3, Row: one(3), Span: life(0, forever)}, {ID: 2, Row: one(2), Span: life(0, 5)}}
	if got := fold.Events(l); !sameEvents(got, want) {
		t.Error(got)
	}
	changes := fold.Changes(l)
	if len(changes) != 6 || changes[4].New != (api.Span{}) || changes[4].Old != life(0, 1) || changes[5].Serial != 4 {
		t.Error(changes)
	}
}

// P13.2: the document's example, and others by hand.
func TestTable(t *testing.T) {
	five := one(5)
	piece := func(r api.Row, from, to int) api.Piece { return api.Piece{Row: r, Span: life(from, to)} }
	tests := []struct {
		l    []api.Msg
		want []api.Piece
	}{
		{nil, nil},
		{[]api.Msg{msg.Begin(1, 2, 9, five), msg.End(1, 4), msg.Mark(4), msg.Begin(1, 6, 8, five)}, []api.Piece{piece(five, 2, 4), piece(five, 6, 8)}},
		{[]api.Msg{msg.Begin(1, 5, 9, five), msg.Begin(2, 2, 5, five)}, []api.Piece{piece(five, 2, 9)}},
		{[]api.Msg{msg.Begin(1, 1, 10, five), msg.Begin(2, 3, 5, five)}, []api.Piece{piece(five, 1, 5), piece(five, 3, 10)}},
		{[]api.Msg{msg.Begin(1, 1, forever, five), msg.Begin(2, 1, forever, five)}, []api.Piece{piece(five, 1, forever), piece(five, 1, forever)}},
		{[]api.Msg{begin(3, 2, 9), begin(1, 4, 9), begin(2, 0, 1), msg.Begin(4, 7, 8, nil)}, []api.Piece{piece(nil, 7, 8), piece(one(1), 4, 9), piece(one(2), 0, 1), piece(one(3), 2, 9)}},
		{[]api.Msg{begin(3, 2, 9), msg.End(3, 2), msg.Mark(forever)}, nil},
		{[]api.Msg{msg.Mark(3), begin(3, 2, 9), {}}, nil},
	}
	for i, x := range tests {
		if got, e := fold.Table(x.l); e != api.OK || !pack.Same(got, x.want) {
			t.Errorf("%d: %v, error %d, and not %v", i, got, e, x.want)
		}
	}
}

// many are so many events of a row, one tick long, each so many ticks behind the one ahead of it.
func many(count, each int, r func(i int) api.Row) []api.Msg {
	var l []api.Msg
	for i := range count {
		l = append(l, msg.Begin(i+1, i*each, i*each+1, r(i)))
	}
	return l
}

// P13.2: what there is no room for.
func TestTableRoom(t *testing.T) {
	same := func(int) api.Row { return one(1) }
	other := func(i int) api.Row { return one(i / 2) }
	tests := []struct {
		l    []api.Msg
		size int
		e    api.Errno
	}{
		{many(maxPieces, 1, same), 1, api.OK},
		{many(maxPieces+1, 1, same), 0, api.ErrFull}, // too many of them ahead of being put together
		{append(many(maxPieces+1, 1, same), msg.End(17, 16)), 2, api.OK},
		{many(maxJumps/2, 2, same), maxJumps / 2, api.OK},
		{many(maxJumps/2+1, 2, same), 0, api.ErrFull},
		{append(many(maxJumps/2+1, 2, same), msg.End(1, 0)), maxJumps / 2, api.OK},
		{many(maxPieces/2, 2, other), maxPieces / 2, api.OK},
		{many(maxPieces/2+1, 2, other), 0, api.ErrFull},
	}
	for i, x := range tests {
		if got, e := fold.Table(x.l); e != x.e || len(got) != x.size {
			t.Errorf("%d: %d pieces, error %d", i, len(got), e)
		}
		if answers := fold.Answers(x.l); slices.ContainsFunc(answers, func(e api.Errno) bool { return e != api.OK }) {
			t.Errorf("%d: there is always room for messages", i)
		}
	}
}

// edges are those of a row, by their places and sizes, in turn.
func edges(r api.Row, l ...int) []api.Edge {
	var made []api.Edge
	for i := 0; i < len(l); i += 2 {
		made = append(made, api.Edge{Row: slices.Clone(r), At: l[i], Net: l[i+1]})
	}
	return made
}

// P13.2: the document's example, and others by hand.
func TestEdges(t *testing.T) {
	none, five := api.Span{}, one(5)
	tests := []struct {
		r        api.Row
		old, new api.Span
		want     []api.Edge
	}{
		{five, life(2, 9), life(2, 4), edges(five, 4, -1, 9, 1)},
		{five, none, life(2, 9), edges(five, 2, 1, 9, -1)},
		{five, life(2, 9), none, edges(five, 2, -1, 9, 1)},
		{five, none, none, nil},
		{nil, none, none, nil},
		{nil, none, life(0, 1), edges(nil, 0, 1, 1, -1)},
		{five, life(0, 1), none, edges(five, 0, -1, 1, 1)},
		{five, none, life(2, forever), edges(five, 2, 1)},
		{five, life(2, forever), none, edges(five, 2, -1)},
		{five, life(2, forever), life(2, 7), edges(five, 7, -1)},
		{five, none, life(0, forever), edges(five, 0, 1)},
		{five, life(2, 9), life(2, 9), nil},
		{five, life(2, 9), life(4, 9), edges(five, 2, -1, 4, 1)},
		{five, life(2, 9), life(9, 12), edges(five, 2, -1, 9, 2, 12, -1)},
		{five, life(9, 12), life(2, 9), edges(five, 2, 1, 9, -2, 12, 1)},
		{five, life(2, 4), life(7, 9), edges(five, 2, -1, 4, 1, 7, 1, 9, -1)},
		{five, life(2, 4), life(2, 9), edges(five, 4, 1, 9, -1)},
		{five, none, life(last, forever), edges(five, last, 1)},
		{pair(), none, life(2, 9), edges(pair(), 2, 1, 9, -1)},
	}
	for i, x := range tests {
		for _, serial := range []int{0, 1, -1, most, least} { // which is of no account
			got, e := fold.Edges(api.Change{Serial: serial, Row: x.r, Old: x.old, New: x.new})
			if e != api.OK || !edge.Same(got, x.want) {
				t.Errorf("%d: %v, error %d, and not %v", i, got, e, x.want)
			}
		}
	}
}

// P13.2: wrong changes.
func TestEdgesErrors(t *testing.T) {
	none := api.Span{}
	bad := []api.Span{life(3, 3), life(5, 3), life(1, 0), life(forever, forever), life(before, 0), life(before, 5), life(before, before), life(-2, 3), life(0, -1), life(0, forever+1), life(3, most), life(least, 3), life(least, least), life(most, most), life(forever, forever+1), life(most, least), life(0, least)}
	for _, s := range bad {
		for _, other := range append(bad, none, life(2, 9)) {
			for _, c := range []api.Change{{Serial: 1, Row: one(5), Old: s, New: other}, {Serial: 1, Row: one(5), Old: other, New: s}} {
				if got, e := fold.Edges(c); e != api.ErrSpan || len(got) != 0 {
					t.Errorf("%v: %v, error %d", c, got, e)
				}
			}
		}
	}
	for _, r := range noRows() {
		for _, s := range append(bad, none, life(2, 9)) {
			for _, c := range []api.Change{{Serial: 1, Row: r, Old: s}, {Serial: 1, Row: r, New: s}, {Serial: 1, Row: r, Old: s, New: s}} {
				if got, e := fold.Edges(c); e != api.ErrArg || len(got) != 0 {
					t.Errorf("%v: %v, error %d", c, got, e)
				}
			}
		}
	}
}

// begun is an event of a record: all that were ever accepted are there, in order.
type begun struct {
	id       int
	row      api.Row
	from, to int
	gone     bool // it was cancelled
}

// record is what messages amount to, kept as the document's words have it: nothing is ever forgotten, and each question looks at all there is.
type record struct {
	clock   int
	events  []begun
	changes []api.Change
	answers []api.Errno
}

// known is the place of the event that is known by a number, or -1.
func (r *record) known(id int) int {
	return slices.IndexFunc(r.events, func(x begun) bool { return x.id == id && !x.gone && x.to > r.clock })
}

// result is a message's result. Errors stand in their order.
func (r *record) result(m api.Msg) api.Errno {
	if e := msg.Check(m); e != api.OK {
		return e
	}
	at := r.known(m.ID)
	var checks []bool
	var errors []api.Errno
	add := func(holds bool, e api.Errno) {
		checks, errors = append(checks, holds), append(errors, e)
	}
	switch m.Kind {
	case api.Insert:
		add(m.From < r.clock, api.ErrLate)
		add(at >= 0, api.ErrTwice)
	case api.Retract:
		if at < 0 {
			return api.ErrNone
		}
		add(m.To >= r.events[at].to, api.ErrGrow)
		add(m.To < r.events[at].from, api.ErrSpan)
		add(m.To < r.clock, api.ErrLate)
	case api.CTI:
		add(m.From < r.clock, api.ErrLate)
	}
	if first := slices.Index(checks, true); first >= 0 {
		return errors[first]
	}
	return api.OK
}

// see takes a message.
func (r *record) see(m api.Msg) {
	e := r.result(m)
	r.answers = append(r.answers, e)
	if e != api.OK {
		return
	}
	switch m.Kind {
	case api.Insert:
		r.events = append(r.events, begun{id: m.ID, row: m.Row, from: m.From, to: m.To})
		r.changes = append(r.changes, api.Change{Serial: len(r.events), Row: m.Row, New: life(m.From, m.To)})
	case api.Retract:
		at := r.known(m.ID)
		x := &r.events[at]
		c := api.Change{Serial: at + 1, Row: x.row, Old: life(x.from, x.to)}
		if m.To == x.from {
			x.gone = true
		} else {
			x.to = m.To
			c.New = life(x.from, m.To)
		}
		r.changes = append(r.changes, c)
	case api.CTI:
		r.clock = m.From
	}
}

// left are the events with a lifetime.
func (r *record) left() []api.Event {
	var l []api.Event
	for _, x := range r.events {
		if !x.gone {
			l = append(l, api.Event{ID: x.id, Row: x.row, Span: life(x.from, x.to)})
		}
	}
	return l
}

// compare holds all that fold says of messages against a record of them.
func compare(t *testing.T, l []api.Msg) *record {
	t.Helper()
	r := &record{}
	for _, m := range l {
		r.see(m)
	}
	if got := fold.Answers(l); !slices.Equal(got, r.answers) {
		t.Fatalf("answers to %v: %v, and not %v", l, got, r.answers)
	}
	if got := fold.Clock(l); got != r.clock {
		t.Fatalf("clock of %v: %d, and not %d", l, got, r.clock)
	}
	if got := fold.Changes(l); !sameChanges(got, r.changes) {
		t.Fatalf("changes of %v: %v, and not %v", l, got, r.changes)
	}
	if got := fold.Events(l); !sameEvents(got, r.left()) {
		t.Fatalf("events of %v: %v, and not %v", l, got, r.left())
	}
	var lives []api.Piece
	for _, x := range r.left() {
		lives = append(lives, api.Piece{Row: x.Row, Span: x.Span})
	}
	want, wanted := pack.Pack(lives...)
	if got, e := fold.Table(l); e != wanted || !pack.Same(got, want) {
		t.Fatalf("table of %v: %v, error %d, and not %v, error %d", l, got, e, want, wanted)
	}
	return r
}

// P13.1, P13.2: all courses of a few messages.
func TestAllShortCourses(t *testing.T) {
	every := []api.Msg{begin(1, 0, 2), begin(1, 1, 3), begin(2, 1, 2), msg.End(1, 0), msg.End(1, 1), msg.End(1, 2), msg.End(2, 1), msg.Mark(0), msg.Mark(1), msg.Mark(2)}
	var walk func(l []api.Msg, left int)
	walk = func(l []api.Msg, left int) {
		if left == 0 {
			compare(t, l)
			return
		}
		for _, m := range every {
			walk(append(slices.Clone(l), m), left-1)
		}
	}
	for length := range 5 {
		walk(nil, length)
	}
}

// dice are numbers that look like chance, and are always the same.
type dice struct{ seed uint32 }

func (d *dice) below(n int) int {
	d.seed = d.seed*1664525 + 1013904223
	return int(d.seed>>8) % n
}

// message is one about a few numbers, at ticks near to one.
func (d *dice) message(near int) api.Msg {
	id, from := 1+d.below(5), max(0, near-2+d.below(6))
	switch d.below(9) {
	case 0:
		return msg.Mark(from)
	case 1, 2, 3:
		return msg.Begin(id, from, from+1+d.below(8), one(d.below(3)))
	case 4:
		return msg.Begin(id, from, forever, api.Row{text("a")})
	case 5:
		return api.Msg{Kind: api.MsgKind(d.below(5)), ID: d.below(3) - 1, From: d.below(4) - 1, To: d.below(4) - 1}
	}
	return msg.End(id, max(0, near-2+d.below(10)))
}

// course is so many messages, at ticks that grow.
func (d *dice) course(count int) []api.Msg {
	var l []api.Msg
	for i := range count {
		l = append(l, d.message(i/6))
	}
	return l
}

// P13.1, P13.2: as the record, over many long courses in which everything happens.
func TestLongCourses(t *testing.T) {
	d := &dice{1}
	seen := map[api.Errno]int{}
	cancelled := 0
	for range 300 {
		r := compare(t, d.course(120))
		for _, e := range r.answers {
			seen[e]++
		}
		for _, x := range r.events {
			if x.gone {
				cancelled++
			}
		}
	}
	for _, e := range []api.Errno{api.OK, api.ErrKind, api.ErrArg, api.ErrTime, api.ErrSpan, api.ErrLate, api.ErrTwice, api.ErrNone, api.ErrGrow} {
		if seen[e] < 100 {
			t.Error("too seldom:", e, seen[e])
		}
	}
	if cancelled < 100 {
		t.Error("too seldom:", cancelled)
	}
}

// P13.3: after a CTI nothing before it changes, and the clock never decreases.
func TestCertain(t *testing.T) {
	d := &dice{2}
	for range 100 {
		l := d.course(100)
		for cut := 0; cut <= len(l); cut += 7 {
			clock := fold.Clock(l[:cut])
			then, e := fold.Table(l[:cut])
			if e != api.OK {
				t.Fatal(e)
			}
			for end := cut; end <= len(l); end += 13 {
				now, e := fold.Table(l[:end])
				if e != api.OK || !pack.Same(pack.Ahead(now, clock), pack.Ahead(then, clock)) {
					t.Fatalf("before %d: %v, and %v", clock, now, then)
				}
				if fold.Clock(l[:end]) < clock {
					t.Fatal("the clock has decreased")
				}
			}
		}
	}
}

// P13.4: the sum of the edges of all changes is the table.
func TestSumOfChanges(t *testing.T) {
	d := &dice{3}
	for range 200 {
		l := d.course(100)
		var sum []api.Edge
		for _, c := range fold.Changes(l) {
			edges, e := fold.Edges(c)
			if e != api.OK {
				t.Fatal(c, e)
			}
			if sum, e = edge.Add(sum, edges); e != api.OK {
				t.Fatal(e)
			}
		}
		table, e := fold.Table(l)
		if e != api.OK {
			t.Fatal(e)
		}
		if got, e := pack.Pieces(sum); e != api.OK || !pack.Same(got, table) {
			t.Fatalf("%v, error %d, and not %v", got, e, table)
		}
	}
}

// roomy is a row with unused room, which is marked.
func roomy(n int) api.Row {
	r := slices.Repeat(one(77), 6)
	r[0] = value.Num(n)
	return r[:1]
}

// fill fills all that a row has room for.
func fill(r api.Row) {
	whole := r[:cap(r)]
	for i := range whole {
		whole[i] = value.Num(99)
	}
}

// roomyCourse is messages with such rows, in a list with unused room.
func roomyCourse() []api.Msg {
	l := make([]api.Msg, 0, 12)
	for i, m := range []api.Msg{begin(1, 2, 9), begin(2, 3, 9), msg.End(1, 5), msg.End(1, 4), begin(3, 3, 9), msg.End(3, 3), msg.Mark(3), begin(3, 4, 9)} {
		if m.Kind == api.Insert {
			m.Row = roomy(i)
		}
		l = append(l, m)
	}
	return l
}

// expectUntouched looks whether a course and its unused room are as they were made.
func expectUntouched(t *testing.T, l []api.Msg) {
	t.Helper()
	fresh := roomyCourse()
	for i, m := range l[:cap(l)] {
		if !msg.Same(m, fresh[:cap(fresh)][i]) || !slices.Equal(m.Row[:cap(m.Row)], fresh[:cap(fresh)][i].Row[:cap(m.Row)]) {
			t.Fatalf("message %d has changed: %v", i, m)
		}
	}
}

// P3: arguments stay as they are, and no two rows of what is answered share memory, nor with those of arguments.
func TestMemory(t *testing.T) {
	l := roomyCourse()
	fold.Answers(l)
	fold.Clock(l)
	expectUntouched(t, l)
	changes := fold.Changes(l)
	for i := range changes {
		fill(changes[i].Row)
		if !sameChanges(changes[i+1:], fold.Changes(l)[i+1:]) {
			t.Fatal("two changes share memory")
		}
	}
	expectUntouched(t, l)
	events := fold.Events(l)
	for i := range events {
		fill(events[i].Row)
		if !sameEvents(events[i+1:], fold.Events(l)[i+1:]) {
			t.Fatal("two events share memory")
		}
	}
	expectUntouched(t, l)
	table, _ := fold.Table(l)
	for i := range table {
		fill(table[i].Row)
		fresh, _ := fold.Table(l)
		if !pack.Same(table[i+1:], fresh[i+1:]) {
			t.Fatal("two pieces share memory")
		}
	}
	expectUntouched(t, l)
}

// P3: the edges of a change, too.
func TestMemoryOfEdges(t *testing.T) {
	c := api.Change{Serial: 1, Row: roomy(5), Old: life(2, 4), New: life(7, 9)}
	l, _ := fold.Edges(c)
	for i := range l {
		fill(l[i].Row)
		fresh, _ := fold.Edges(c)
		if !edge.Same(l[i+1:], fresh[i+1:]) {
			t.Fatal("two edges share memory")
		}
	}
	if !slices.Equal(c.Row[:cap(c.Row)], roomy(5)[:6]) {
		t.Fatal("the change has changed")
	}
}

// P6: one call has no effect on another one.
func TestNothingIsKept(t *testing.T) {
	for range 3 {
		if got := fold.Answers([]api.Msg{begin(1, 2, 9), msg.Mark(5)}); !slices.Equal(got, []api.Errno{api.OK, api.OK}) {
			t.Fatal(got)
		}
		if got := fold.Changes([]api.Msg{begin(1, 2, 9)}); len(got) != 1 || got[0].Serial != 1 {
			t.Fatal(got)
		}
		if fold.Clock(nil) != 0 || len(fold.Events(nil)) != 0 {
			t.Fatal("something is left of the call before")
		}
	}
}
