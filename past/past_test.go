package past_test

import (
	"math"
	"slices"
	"strings"
	"testing"

	"rescind/api"
	"rescind/fold"
	"rescind/msg"
	"rescind/past"
	"rescind/row"
	"rescind/schema"
	"rescind/value"
)

const (
	most      = math.MaxInt64
	least     = math.MinInt64
	forever   = 1 << 50
	last      = forever - 1
	maxID     = 1 << 40
	maxEvents = 1 << 12
)

func text(s string) api.Value { return api.Value{Kind: api.Text, Text: s} }

func one(n int) api.Row { return api.Row{value.Num(n)} }

func life(from, to int) api.Span { return api.Span{From: from, To: to} }

// begin is an insert whose row is the number of its event, so that rows tell events apart.
func begin(id, from, to int) api.Msg { return msg.Begin(id, from, to, one(id)) }

// number is a schema with a number alone.
func number() api.Schema { return api.Schema{{Name: "a", Kind: api.Number}} }

// noRows are lists of values that are no rows.
func noRows() []api.Row {
	return []api.Row{{{}}, {value.Num(1), {}}, {{Kind: 3}}, {{Kind: api.Number, Text: "a"}}, {text(strings.Repeat("a", 65))}, slices.Repeat(one(0), 9), make(api.Row, 1)}
}

func sameChange(a, b api.Change) bool {
	return a.Serial == b.Serial && a.Old == b.Old && a.New == b.New && row.Same(a.Row, b.Row)
}

// of is a past with a schema of a number alone that took messages.
func of(t *testing.T, l ...api.Msg) *past.Past {
	t.Helper()
	p, e := past.New(number())
	if e != api.OK {
		t.Fatal(e)
	}
	for _, m := range l {
		if _, e := p.Take(m); e != api.OK {
			t.Fatal(msg.Show(m), e)
		}
	}
	return p
}

// refuse has a past refuse a message.
func refuse(t *testing.T, p *past.Past, m api.Msg, want api.Errno) {
	t.Helper()
	if c, e := p.Take(m); e != want || !sameChange(c, api.Change{}) {
		t.Errorf("%v: %v, error %d, and not %d", m, c, e, want)
	}
}

// take has a past take a message.
func take(t *testing.T, p *past.Past, m api.Msg, want api.Change) {
	t.Helper()
	if c, e := p.Take(m); e != api.OK || !sameChange(c, want) {
		t.Errorf("%v: %v, error %d, and not %v", m, c, e, want)
	}
}

// held is one event that a past is to hold.
type held struct {
	id, serial int
	row        api.Row
	life       api.Span
}

// expect holds all that a past says, but its schema, against a clock and the events by their serial numbers.
func expect(t *testing.T, p *past.Past, clock int, want ...held) {
	t.Helper()
	if p.Clock() != clock || p.Count() != len(want) {
		t.Fatalf("clock %d, %d events, and not %d and %d", p.Clock(), p.Count(), clock, len(want))
	}
	known := map[int]held{}
	got := p.Held()
	if len(got) != len(want) {
		t.Fatalf("%v, and not %v", got, want)
	}
	for i, x := range want {
		known[x.id] = x
		if !sameChange(got[i], api.Change{Serial: x.serial, Row: x.row, New: x.life}) {
			t.Fatalf("%v, and not %v", got[i], x)
		}
	}
	for _, id := range []int{least, -1, 0, 1, 2, 3, 4, 5, 6, 7, 8, 9, maxID, maxID + 1, most} {
		x, ok := known[id]
		found, is := p.Find(id)
		if is != ok || !ok && (found.ID != 0 || found.Span != api.Span{} || len(found.Row) != 0) {
			t.Fatalf("find %d: %v, %v", id, found, is)
		}
		if ok && (found.ID != id || found.Span != x.life || !row.Same(found.Row, x.row)) {
			t.Fatalf("find %d: %v, and not %v", id, found, x)
		}
	}
}

// P14.1, P14.2
func TestNew(t *testing.T) {
	wide := api.Schema{}
	for _, name := range []string{"a", "b", "c", "d", "e", "f", "g", "h"} {
		wide = append(wide, api.Col{Name: name, Kind: api.Text})
	}
	for _, s := range []api.Schema{number(), {{Name: "z9", Kind: api.Text}, {Name: "a", Kind: api.Number}}, wide} {
		p, e := past.New(s)
		if e != api.OK || p == nil {
			t.Fatal(s, e)
		}
		expect(t, p, 0)
		if !schema.Same(p.Schema(), s) {
			t.Fatal(p.Schema(), s)
		}
	}
	for _, s := range []api.Schema{nil, {}, {{}}, {{Name: "a"}}, {{Name: "a", Kind: 3}}, {{Kind: api.Number}}, {{Name: "A", Kind: api.Number}}, {{Name: "and", Kind: api.Text}}, append(number(), number()...), append(slices.Clone(wide), api.Col{Name: "i", Kind: api.Text})} {
		if p, e := past.New(s); p != nil || e != api.ErrSchema {
			t.Error(s, e)
		}
	}
	a, b := of(t, begin(1, 2, 9), msg.Mark(1)), of(t)
	expect(t, b, 0)
	take(t, b, begin(1, 0, 5), api.Change{Serial: 1, Row: one(1), New: life(0, 5)})
	expect(t, a, 1, held{1, 1, one(1), life(2, 9)})
}

// P14.1, P14.2
func TestNil(t *testing.T) {
	var p *past.Past
	for _, m := range []api.Msg{{}, begin(1, 2, 9), begin(0, 9, 2), msg.Begin(1, 2, 9, nil), msg.End(1, 5), msg.Mark(5), msg.Mark(-1), {Kind: 9}} {
		refuse(t, p, m, api.ErrNil)
	}
	if p.Clock() != 0 || len(p.Schema()) != 0 || len(p.Held()) != 0 || p.Count() != 0 {
		t.Error("a nil past is not empty")
	}
	for _, id := range []int{least, 0, 1, most} {
		if x, ok := p.Find(id); ok || x.ID != 0 || x.Span != (api.Span{}) || len(x.Row) != 0 {
			t.Error(id, x, ok)
		}
	}
}

// P14.1, P14.2, P14.3: the document's examples, and a course by hand.
func TestTake(t *testing.T) {
	none := api.Span{}
	p := of(t)
	take(t, p, begin(1, 2, 9), api.Change{Serial: 1, Row: one(1), New: life(2, 9)})
	take(t, p, begin(7, 0, 4), api.Change{Serial: 2, Row: one(7), New: life(0, 4)})
	take(t, p, begin(3, 5, forever), api.Change{Serial: 3, Row: one(3), New: life(5, forever)})
	expect(t, p, 0, held{1, 1, one(1), life(2, 9)}, held{7, 2, one(7), life(0, 4)}, held{3, 3, one(3), life(5, forever)})
	refuse(t, p, begin(7, 1, 3), api.ErrTwice)
	refuse(t, p, msg.End(1, 9), api.ErrGrow)
	refuse(t, p, msg.End(1, 1), api.ErrSpan)
	refuse(t, p, msg.End(2, 5), api.ErrNone)
	take(t, p, msg.Mark(4), api.Change{})
	expect(t, p, 4, held{1, 1, one(1), life(2, 9)}, held{3, 3, one(3), life(5, forever)})
	refuse(t, p, msg.End(1, 3), api.ErrLate)
	refuse(t, p, msg.End(1, 2), api.ErrLate)
	refuse(t, p, begin(4, 3, 9), api.ErrLate)
	refuse(t, p, begin(1, 3, 9), api.ErrLate)
	refuse(t, p, msg.Mark(3), api.ErrLate)
	refuse(t, p, msg.End(7, 4), api.ErrNone)
	expect(t, p, 4, held{1, 1, one(1), life(2, 9)}, held{3, 3, one(3), life(5, forever)})
	take(t, p, begin(7, 4, 6), api.Change{Serial: 4, Row: one(7), New: life(4, 6)})
	take(t, p, msg.End(3, 8), api.Change{Serial: 3, Row: one(3), Old: life(5, forever), New: life(5, 8)})
	take(t, p, msg.End(3, 6), api.Change{Serial: 3, Row: one(3), Old: life(5, 8), New: life(5, 6)})
	expect(t, p, 4, held{1, 1, one(1), life(2, 9)}, held{3, 3, one(3), life(5, 6)}, held{7, 4, one(7), life(4, 6)})
	take(t, p, msg.End(3, 5), api.Change{Serial: 3, Row: one(3), Old: life(5, 6), New: none})
	refuse(t, p, msg.End(3, 5), api.ErrNone)
	take(t, p, msg.End(1, 4), api.Change{Serial: 1, Row: one(1), Old: life(2, 9), New: life(2, 4)}) // the clock is there
	refuse(t, p, msg.End(1, 4), api.ErrNone)
	expect(t, p, 4, held{7, 4, one(7), life(4, 6)})
	take(t, p, msg.Begin(1, 4, 5, one(10)), api.Change{Serial: 5, Row: one(10), New: life(4, 5)})
	take(t, p, msg.Begin(3, 4, 5, one(30)), api.Change{Serial: 6, Row: one(30), New: life(4, 5)})
	take(t, p, msg.Mark(4), api.Change{})
	expect(t, p, 4, held{7, 4, one(7), life(4, 6)}, held{1, 5, one(10), life(4, 5)}, held{3, 6, one(30), life(4, 5)})
	take(t, p, msg.Mark(5), api.Change{})
	expect(t, p, 5, held{7, 4, one(7), life(4, 6)})
	take(t, p, msg.Mark(forever), api.Change{})
	expect(t, p, forever)
	refuse(t, p, begin(1, last, forever), api.ErrLate)
}

// P14.3: the document's example.
func TestNothingHeld(t *testing.T) {
	p := of(t, msg.Begin(1, 2, 9, one(5)), msg.Mark(9))
	expect(t, p, 9)
	take(t, p, msg.Begin(1, 9, 12, one(5)), api.Change{Serial: 2, Row: one(5), New: life(9, 12)})
	p = of(t, msg.Begin(1, 2, 9, one(5)), msg.Mark(8))
	expect(t, p, 8, held{1, 1, one(5), life(2, 9)})
	refuse(t, p, msg.Begin(1, 9, 12, one(5)), api.ErrTwice)
}

// refusal is a message with the error by which it is refused.
type refusal struct {
	m api.Msg
	e api.Errno
}

// refusals are what a past refuses that holds event 1 from 2 to 9 and event 2 from 6 to 20, and whose clock is 4.
func refusals() []refusal {
	l := []refusal{
		{api.Msg{}, api.ErrKind},
		{api.Msg{Kind: 4, ID: 1, From: 5, To: 9, Row: one(1)}, api.ErrKind},
		{api.Msg{Kind: -1}, api.ErrKind},
		{begin(0, 5, 9), api.ErrArg},
		{begin(maxID+1, 5, 9), api.ErrArg},
		{begin(most, 9, 5), api.ErrArg},
		{msg.End(0, 5), api.ErrArg},
		{msg.End(least, 5), api.ErrArg},
		{api.Msg{Kind: api.Retract, ID: 1, From: 2, To: 5}, api.ErrArg},
		{api.Msg{Kind: api.Retract, ID: 1, To: 5, Row: one(1)}, api.ErrArg},
		{api.Msg{Kind: api.CTI, ID: 1, From: 5}, api.ErrArg},
		{api.Msg{Kind: api.CTI, From: 5, To: 6}, api.ErrArg},
		{api.Msg{Kind: api.CTI, From: 5, Row: one(1)}, api.ErrArg},
		{begin(3, -1, 9), api.ErrTime},
		{begin(3, 5, forever+1), api.ErrTime},
		{msg.End(1, -1), api.ErrTime},
		{msg.End(3, most), api.ErrTime},
		{msg.Mark(-1), api.ErrTime},
		{msg.Mark(forever + 1), api.ErrTime},
		{begin(3, 5, 5), api.ErrSpan},
		{msg.Begin(3, 9, 5, nil), api.ErrSpan}, // ahead of that the row does not fit
		{msg.Begin(0, 5, 9, nil), api.ErrArg},
		{msg.Begin(3, -1, 9, nil), api.ErrTime},
		{msg.Begin(3, 5, 9, nil), api.ErrSchema},
		{msg.Begin(3, 5, 9, api.Row{}), api.ErrSchema},
		{msg.Begin(3, 5, 9, api.Row{text("a")}), api.ErrSchema},
		{msg.Begin(3, 5, 9, api.Row{value.Num(1), value.Num(2)}), api.ErrSchema},
		{msg.Begin(3, 5, 9, slices.Repeat(one(1), 8)), api.ErrSchema},
		{msg.Begin(3, 2, 9, nil), api.ErrSchema}, // ahead of that it is late
		{msg.Begin(1, 5, 9, nil), api.ErrSchema}, // and of that the number is known
		{begin(3, 3, 9), api.ErrLate},
		{begin(1, 3, 9), api.ErrLate}, // ahead of that the number is known
		{begin(1, 4, 9), api.ErrTwice},
		{begin(2, 30, 40), api.ErrTwice},
		{msg.End(3, 5), api.ErrNone},
		{msg.End(3, 3), api.ErrNone},
		{msg.End(1, 9), api.ErrGrow},
		{msg.End(1, forever), api.ErrGrow},
		{msg.End(2, 20), api.ErrGrow},
		{msg.End(1, 1), api.ErrSpan},
		{msg.End(2, 5), api.ErrSpan},
		{msg.End(2, 3), api.ErrSpan}, // ahead of that it is late
		{msg.End(1, 2), api.ErrLate},
		{msg.End(1, 3), api.ErrLate},
		{msg.Mark(3), api.ErrLate},
		{msg.Mark(0), api.ErrLate},
	}
	for _, r := range noRows() {
		l = append(l, refusal{msg.Begin(3, 5, 9, r), api.ErrArg})
	}
	return l
}

// P14.1: the error of msg.Check comes first, then whether the row fits, and then all else.
func TestTakeErrors(t *testing.T) {
	start := []api.Msg{begin(1, 2, 9), begin(2, 6, 20), msg.Mark(4)}
	holds := []held{{1, 1, one(1), life(2, 9)}, {2, 2, one(2), life(6, 20)}}
	all := of(t, start...)
	for _, x := range refusals() {
		p := of(t, start...)
		for range 2 {
			refuse(t, p, x.m, x.e)
			expect(t, p, 4, holds...)
		}
		take(t, p, begin(3, 4, 5), api.Change{Serial: 3, Row: one(3), New: life(4, 5)}) // what was refused got no number
		refuse(t, all, x.m, x.e)
	}
	expect(t, all, 4, holds...)
	take(t, all, begin(3, 4, 5), api.Change{Serial: 3, Row: one(3), New: life(4, 5)})
}

// P14.1: which rows fit depends on the schema.
func TestTakeFits(t *testing.T) {
	p, e := past.New(api.Schema{{Name: "b", Kind: api.Text}, {Name: "a", Kind: api.Number}})
	if e != api.OK {
		t.Fatal(e)
	}
	pair := api.Row{text("x"), value.Num(3)}
	for _, r := range []api.Row{nil, one(1), {text("x")}, {value.Num(3), text("x")}, {text("x"), text("x")}, {text("x"), value.Num(3), value.Num(3)}} {
		refuse(t, p, msg.Begin(1, 2, 9, r), api.ErrSchema)
	}
	take(t, p, msg.Begin(1, 2, 9, pair), api.Change{Serial: 1, Row: pair, New: life(2, 9)})
	take(t, p, msg.Begin(maxID, 2, 9, api.Row{text(""), value.Num(least)}), api.Change{Serial: 2, Row: api.Row{text(""), value.Num(least)}, New: life(2, 9)})
	take(t, p, msg.End(1, 3), api.Change{Serial: 1, Row: pair, Old: life(2, 9), New: life(2, 3)})
	take(t, p, msg.End(maxID, 2), api.Change{Serial: 2, Row: api.Row{text(""), value.Num(least)}, Old: life(2, 9)})
	expect(t, p, 0, held{1, 1, pair, life(2, 3)})
}

// P14.1: a full past refuses what begins an event, where nothing else is wrong with it, and nothing else.
func TestFull(t *testing.T) {
	p := of(t)
	for i := 1; i <= maxEvents; i++ {
		if _, e := p.Take(begin(i, 5, 9+i)); e != api.OK {
			t.Fatal(i, e)
		}
	}
	for range 2 {
		refuse(t, p, begin(maxEvents+1, 5, 9), api.ErrFull)
		refuse(t, p, begin(maxEvents+1, 20, forever), api.ErrFull)
	}
	refuse(t, p, msg.Begin(maxEvents+1, 5, 9, nil), api.ErrSchema)
	refuse(t, p, begin(0, 5, 9), api.ErrArg)
	refuse(t, p, begin(7, 5, 9), api.ErrTwice)
	refuse(t, p, msg.End(maxEvents+1, 9), api.ErrNone)
	refuse(t, p, msg.End(7, 16), api.ErrGrow)
	take(t, p, msg.Mark(3), api.Change{})
	refuse(t, p, begin(maxEvents+1, 2, 9), api.ErrLate)
	take(t, p, msg.End(7, 15), api.Change{Serial: 7, Row: one(7), Old: life(5, 16), New: life(5, 15)})
	refuse(t, p, begin(maxEvents+1, 5, 9), api.ErrFull)
	take(t, p, msg.End(7, 5), api.Change{Serial: 7, Row: one(7), Old: life(5, 15)}) // now there is room for one
	take(t, p, begin(maxEvents+1, 5, 9), api.Change{Serial: maxEvents + 1, Row: one(maxEvents + 1), New: life(5, 9)})
	refuse(t, p, begin(7, 5, 9), api.ErrFull)
	if p.Count() != maxEvents || len(p.Held()) != maxEvents {
		t.Fatal(p.Count())
	}
	take(t, p, msg.Mark(9), api.Change{}) // and now for one more
	take(t, p, begin(7, 9, 12), api.Change{Serial: maxEvents + 2, Row: one(7), New: life(9, 12)})
	refuse(t, p, begin(maxEvents+1, 9, 12), api.ErrFull)
	take(t, p, msg.Mark(10), api.Change{})
	take(t, p, begin(maxEvents+1, 10, 12), api.Change{Serial: maxEvents + 3, Row: one(maxEvents + 1), New: life(10, 12)})
	refuse(t, p, begin(maxEvents+2, 10, 12), api.ErrFull)
	take(t, p, msg.Mark(forever), api.Change{})
	expect(t, p, forever)
}

// P14.2: the order is that in which they began, whatever their numbers are, and whenever they end.
func TestOrder(t *testing.T) {
	p := of(t, begin(9, 2, 30), begin(4, 8, 9), begin(6, 1, 30), begin(2, 5, 12), begin(7, 0, forever))
	take(t, p, msg.End(9, 9), api.Change{Serial: 1, Row: one(9), Old: life(2, 30), New: life(2, 9)})
	take(t, p, msg.End(6, 7), api.Change{Serial: 3, Row: one(6), Old: life(1, 30), New: life(1, 7)})
	for range 5 {
		expect(t, p, 0, held{9, 1, one(9), life(2, 9)}, held{4, 2, one(4), life(8, 9)}, held{6, 3, one(6), life(1, 7)}, held{2, 4, one(2), life(5, 12)}, held{7, 5, one(7), life(0, forever)})
	}
	take(t, p, msg.End(4, 8), api.Change{Serial: 2, Row: one(4), Old: life(8, 9)})
	take(t, p, begin(4, 3, 9), api.Change{Serial: 6, Row: one(4), New: life(3, 9)})
	take(t, p, msg.Mark(7), api.Change{})
	expect(t, p, 7, held{9, 1, one(9), life(2, 9)}, held{2, 4, one(2), life(5, 12)}, held{7, 5, one(7), life(0, forever)}, held{4, 6, one(4), life(3, 9)})
	take(t, p, msg.Mark(9), api.Change{})
	expect(t, p, 9, held{2, 4, one(2), life(5, 12)}, held{7, 5, one(7), life(0, forever)})
}

// dice are numbers that look like chance, and are always the same.
type dice struct{ seed uint32 }

func (d *dice) below(n int) int {
	d.seed = d.seed*1664525 + 1013904223
	return int(d.seed>>8) % n
}

// message is one about a few numbers, at ticks near to one.
func (d *dice) message(near int) api.Msg {
	id, from := 1+d.below(9), max(0, near-2+d.below(6))
	switch d.below(12) {
	case 0:
		return msg.Mark(from)
	case 1, 2, 3, 4:
		return msg.Begin(id, from, from+1+d.below(8), one(d.below(3)))
	case 5:
		return msg.Begin(id, from, forever, one(d.below(3)))
	case 6:
		return api.Msg{Kind: api.MsgKind(d.below(5)), ID: d.below(3) - 1, From: d.below(4) - 1, To: d.below(4) - 1, Row: slices.Repeat(one(1), d.below(3))}
	case 7:
		return msg.Begin(id, from, from+5, slices.Repeat(one(1), 2*d.below(2)))
	case 8:
		return msg.End(id, from-5)
	}
	return msg.End(id, max(0, near-2+d.below(10)))
}

// accepted are messages that a past took, and as which numbers its events began.
type accepted struct {
	l   []api.Msg
	ids []int // by serial numbers, from 1
}

// holds are the events of all messages that end behind the clock.
func (a *accepted) holds() []held {
	var l []held
	clock := fold.Clock(a.l)
	now := map[int]api.Change{}
	for _, c := range fold.Changes(a.l) {
		now[c.Serial] = c
	}
	for i, id := range a.ids {
		if c := now[i+1]; c.New.To > clock {
			l = append(l, held{id, i + 1, c.Row, c.New})
		}
	}
	return l
}

// answer is what is to be said to a message by all those that were taken ahead of it.
func (a *accepted) answer(m api.Msg) (api.Change, api.Errno) {
	if e := msg.Check(m); e != api.OK {
		return api.Change{}, e
	}
	if m.Kind == api.Insert && !schema.Fits(number(), m.Row) {
		return api.Change{}, api.ErrSchema
	}
	l := append(slices.Clone(a.l), m)
	if e := fold.Answers(l)[len(a.l)]; e != api.OK {
		return api.Change{}, e
	}
	a.l = l
	if m.Kind == api.CTI {
		return api.Change{}, api.OK
	}
	if m.Kind == api.Insert {
		a.ids = append(a.ids, m.ID)
	}
	changes := fold.Changes(l)
	return changes[len(changes)-1], api.OK
}

// P14.3: a past answers as all messages, one after another, without forgetting anything, and holds what ends behind the clock.
func TestAsAllMessages(t *testing.T) {
	d := &dice{1}
	seen := map[api.Errno]int{}
	peak := 0
	for range 150 {
		p, a := of(t), &accepted{}
		for i := range 150 {
			m := d.message(i / 10)
			want, wanted := a.answer(m)
			c, e := p.Take(m)
			if e != wanted || !sameChange(c, want) {
				t.Fatalf("%v behind %v: %v, error %d, and not %v, error %d", m, a.l, c, e, want, wanted)
			}
			seen[e]++
			peak = max(peak, p.Count())
			expect(t, p, fold.Clock(a.l), a.holds()...)
		}
	}
	for _, e := range []api.Errno{api.OK, api.ErrKind, api.ErrArg, api.ErrTime, api.ErrSpan, api.ErrSchema, api.ErrLate, api.ErrTwice, api.ErrNone, api.ErrGrow} {
		if seen[e] < 100 {
			t.Error("too seldom:", e, seen[e])
		}
	}
	if peak < 8 {
		t.Error("too few at a time:", peak)
	}
}

// P14.3: many events, which end in another order than they begin, some of them together.
func TestMany(t *testing.T) {
	p := of(t)
	end := map[int]int{}
	for i := 1; i <= maxEvents; i++ {
		end[i] = 1 + i*7919%1000
		take(t, p, begin(i, 0, end[i]), api.Change{Serial: i, Row: one(i), New: life(0, end[i])})
	}
	for i := 1; i <= maxEvents; i += 3 {
		to := end[i] / 2
		if to == 0 {
			continue
		}
		take(t, p, msg.End(i, to), api.Change{Serial: i, Row: one(i), Old: life(0, end[i]), New: life(0, to)})
		end[i] = to
	}
	for clock := 0; clock <= 1001; clock += 91 {
		take(t, p, msg.Mark(clock), api.Change{})
		var want []api.Change
		for i := 1; i <= maxEvents; i++ {
			if _, ok := p.Find(i); ok != (end[i] > clock) {
				t.Fatal(clock, i, end[i])
			}
			if end[i] > clock {
				want = append(want, api.Change{Serial: i, Row: one(i), New: life(0, end[i])})
			}
		}
		if got := p.Held(); !slices.EqualFunc(got, want, sameChange) || p.Count() != len(want) {
			t.Fatal(clock, len(got), len(want), p.Count())
		}
	}
}

// roomy is a row with unused room, which is marked.
func roomy(n int) api.Row {
	r := slices.Repeat(one(77), 6)
	r[0] = value.Num(n)
	return r[:1]
}

// fill fills all that a row has room for.
func fill(r api.Row) {
	whole := r[:cap(r)]
	for i := range whole {
		whole[i] = value.Num(99)
	}
}

// P3: a past keeps nothing of what it was given, does not change it, and gives nothing away of what it keeps.
func TestMemory(t *testing.T) {
	columns := append(number(), api.Col{Name: "b", Kind: api.Text})
	given := columns[:1]
	p, e := past.New(given)
	if e != api.OK || columns[1].Name != "b" {
		t.Fatal(e)
	}
	given[0].Kind = api.Text
	handed := p.Schema()
	if !schema.Same(handed, number()) {
		t.Fatal(handed)
	}
	handed[0].Name = "z"
	if !schema.Same(p.Schema(), number()) {
		t.Fatal("a schema that was handed out is the past's own")
	}
	for id := 1; id <= 3; id++ {
		r := roomy(id)
		c, e := p.Take(api.Msg{Kind: api.Insert, ID: id, From: 2, To: 9, Row: r})
		if e != api.OK || !slices.Equal(r[:6], roomy(id)[:6]) {
			t.Fatal(e, r[:6])
		}
		fill(c.Row)
		if !slices.Equal(r[:6], roomy(id)[:6]) {
			t.Fatal("a change has the message's row")
		}
		fill(r)
	}
	want := []held{{1, 1, one(1), life(2, 9)}, {2, 2, one(2), life(2, 9)}, {3, 3, one(3), life(2, 9)}}
	expect(t, p, 0, want...)
	l := p.Held()
	for i := range l {
		fill(l[i].Row)
		if !slices.EqualFunc(l[i+1:], p.Held()[i+1:], sameChange) {
			t.Fatal("two rows of one answer share memory")
		}
	}
	expect(t, p, 0, want...)
	x, _ := p.Find(2)
	fill(x.Row)
	expect(t, p, 0, want...)
	c, _ := p.Take(msg.End(2, 5))
	fill(c.Row)
	want[1].life = life(2, 5)
	expect(t, p, 0, want...)
}
