package life_test

import (
	"math"
	"slices"
	"strings"
	"testing"

	"rescind/api"
	"rescind/edge"
	"rescind/life"
	"rescind/value"
)

const (
	most     = math.MaxInt64
	least    = math.MinInt64
	before   = -1
	forever  = 1 << 50
	last     = forever - 1
	maxSpan  = 1 << 40
	maxNet   = 1 << 20
	maxJumps = 1 << 10
	maxEdges = 1 << 12
)

// of is a row of numbers.
func of(l ...int) api.Row {
	var r api.Row
	for _, n := range l {
		r = append(r, value.Num(n))
	}
	return r
}

// edges are those of a row, by their places and sizes, in turn.
func edges(r api.Row, l ...int) []api.Edge {
	var made []api.Edge
	for i := 0; i < len(l); i += 2 {
		made = append(made, api.Edge{Row: slices.Clone(r), At: l[i], Net: l[i+1]})
	}
	return made
}

// steps are so many increases of a row, each so many ticks behind the one ahead of it, from a place on.
func steps(r api.Row, count, every, from int) []api.Edge {
	var l []api.Edge
	for i := range count {
		l = append(l, edges(r, from+i*every, 1)...)
	}
	return l
}

// wide are so many edges at one place, each of another row.
func wide(count, at int) []api.Edge {
	var l []api.Edge
	for i := range count {
		l = append(l, edges(of(i), at, 1)...)
	}
	return l
}

// never are ticks that are none.
func never() []int { return []int{before, -2, least, forever + 1, most} }

// noLengths are numbers of ticks that nothing may live for.
func noLengths() []int { return []int{0, -1, least, maxSpan + 1, forever, most} }

// none are lists of edges that are not in form.
func none() [][]api.Edge {
	return [][]api.Edge{
		make([]api.Edge, 1),
		edges(of(1), 6, 0),
		edges(of(1), 6, maxNet+1),
		edges(of(1), 6, most),
		edges(of(1), 6, least),
		edges(of(1), -2, 1),
		edges(of(1), least, 1),
		edges(of(1), most, 1),
		edges(of(1), forever, 1),
		edges(of(1), 8, 1, 6, 1),
		edges(of(1), 6, 1, 6, 1),
		edges(of(1, 2, 3, 4, 5, 6, 7, 8, 9), 6, 1),
		edges(api.Row{{}}, 6, 1),
		edges(api.Row{{Kind: api.Text, Text: strings.Repeat("a", 65)}}, 6, 1),
		slices.Concat(edges(of(2), 6, 1), edges(of(1), 6, 1)),
		slices.Concat(edges(of(1), 6, -1), edges(of(2), 6, 0)),
		steps(of(1), maxJumps+1, 1, 0),
		wide(maxEdges+1, 6),
	}
}

// below are edges in form of which a row is there fewer times than none.
func below() [][]api.Edge {
	return [][]api.Edge{
		edges(of(1), 3, -1),
		edges(of(1), before, -1),
		edges(of(1), before, -1, 0, 1),
		edges(of(1), 2, 1, 4, -2),
		edges(of(1), last, -1),
		slices.Concat(edges(of(1), 2, 1), edges(of(2), 3, -1)),
	}
}

// same holds edges against each other, without the program's help.
func same(a, b []api.Edge) bool {
	return slices.EqualFunc(a, b, func(x, y api.Edge) bool {
		return slices.Equal(x.Row, y.Row) && x.At == y.At && x.Net == y.Net
	})
}

// expect holds an answer against another one.
func expect(t *testing.T, got []api.Edge, e api.Errno, want []api.Edge, wanted api.Errno) {
	t.Helper()
	if !same(got, want) || e != wanted {
		t.Fatalf("%d, error %d, and not %d, error %d: %v, %v", len(got), e, len(want), wanted, got[:min(len(got), 9)], want[:min(len(want), 9)])
	}
}

// P33.1: the document's example.
func TestExample(t *testing.T) {
	got, e := life.Last(edges(of(1), 2, 1, 5, 1, 6, -1, 9, -1), 4, 0)
	expect(t, got, e, edges(of(1), 2, 1, 5, 1, 6, -1, 9, -1), api.OK)
}

// P33.1: one copy for each start, whenever the row ends, up to the end of all ticks.
func TestLast(t *testing.T) {
	one := of(1)
	tests := []struct {
		l       []api.Edge
		d, from int
		want    []api.Edge
	}{
		{nil, 1, 0, nil},
		{edges(one, 2, 1), 1, 0, edges(one, 2, 1, 3, -1)},
		{edges(one, 2, 1), 3, 0, edges(one, 2, 1, 5, -1)},
		{edges(one, 2, 1, 9, -1), 3, 0, edges(one, 2, 1, 5, -1)},
		{edges(one, 2, 1, 3, -1), 3, 0, edges(one, 2, 1, 5, -1)},
		{edges(one, 2, 3, 4, -2), 3, 0, edges(one, 2, 3, 5, -3)},
		{edges(one, 2, 3, 4, -2, 6, 1), 3, 0, edges(one, 2, 3, 5, -3, 6, 1, 9, -1)},
		{edges(one, 2, 1, 5, 1), 3, 0, edges(one, 2, 1, 8, -1)}, // what ends where another one begins
		{edges(one, 2, 1, 5, 2), 3, 0, edges(one, 2, 1, 5, 1, 8, -2)},
		{edges(one, 2, 2, 5, 1), 3, 0, edges(one, 2, 2, 5, -1, 8, -1)},
		{edges(one, 2, 1, 3, 1), 3, 0, edges(one, 2, 1, 3, 1, 5, -1, 6, -1)},
		{edges(one, 2, 1, 3, -1, 4, 1), 1, 0, edges(one, 2, 1, 3, -1, 4, 1, 5, -1)},
		{edges(one, 2, maxNet, 5, maxNet), 3, 0, edges(one, 2, maxNet, 8, -maxNet)},
		{edges(one, 2, maxNet, 3, maxNet), 3, 0, edges(one, 2, maxNet, 3, maxNet, 5, -maxNet, 6, -maxNet)},
		{edges(one, 2, 1, 5, 1, 9, -2, 11, 1), 4, 2, edges(one, 2, 1, 5, 1, 6, -1, 9, -1, 11, 1, 15, -1)},
		{edges(one, 2, 1, 5, 1, 9, -2, 11, 1), 4, 3, edges(one, 5, 1, 9, -1, 11, 1, 15, -1)},
		{edges(one, 2, 1, 5, 1, 9, -2, 11, 1), 4, 5, edges(one, 5, 1, 9, -1, 11, 1, 15, -1)},
		{edges(one, 2, 1, 5, 1, 9, -2, 11, 1), 4, 6, edges(one, 11, 1, 15, -1)},
		{edges(one, 2, 1, 5, 1, 9, -2, 11, 1), 4, 12, nil},
		{edges(one, 2, 1), 4, forever, nil},
		{edges(one, before, 1), 4, 0, nil},
		{edges(one, before, 1, 0, 2), 4, 0, edges(one, 0, 2, 4, -2)},
		{edges(one, before, 2, 0, -1, 3, 1), 4, 0, edges(one, 3, 1, 7, -1)},
		{edges(one, 0, 1), maxSpan, 0, edges(one, 0, 1, maxSpan, -1)},
		{edges(one, forever-4, 1), 3, 0, edges(one, forever-4, 1, last, -1)},
		{edges(one, forever-4, 1), 4, 0, edges(one, forever-4, 1)},
		{edges(one, forever-4, 1), 5, 0, edges(one, forever-4, 1)},
		{edges(one, forever-4, 1, last, -1), maxSpan, 0, edges(one, forever-4, 1)},
		{edges(one, last, 2), 1, last, edges(one, last, 2)},
		{edges(one, last, 2), maxSpan, 0, edges(one, last, 2)},
		{slices.Concat(edges(nil, 7, 1), edges(one, 2, 1, 4, -1), edges(of(1, 0), 3, 1), edges(of(2), before, 1)), 2, 0, slices.Concat(edges(nil, 7, 1, 9, -1), edges(one, 2, 1, 4, -1), edges(of(1, 0), 3, 1, 5, -1))},
		{edges(api.Row{{Kind: api.Text, Text: "a"}, value.Num(1)}, 2, 1), 2, 0, edges(api.Row{{Kind: api.Text, Text: "a"}, value.Num(1)}, 2, 1, 4, -1)},
	}
	for i, x := range tests {
		if got, e := life.Last(x.l, x.d, x.from); e != api.OK || !same(got, x.want) {
			t.Error(i, got, e, x.want)
		}
	}
}

// P33.1: which error is told where several things are wrong.
func TestErrors(t *testing.T) {
	refuse := func(l []api.Edge, d, from int, want api.Errno) {
		t.Helper()
		got, e := life.Last(l, d, from)
		expect(t, got, e, nil, want)
	}
	for _, from := range append(never(), 0, 5, forever) {
		for _, d := range append(noLengths(), 1, 5, maxSpan) {
			for _, l := range none() {
				refuse(l, d, from, api.ErrArg)
			}
		}
		for _, d := range noLengths() {
			for _, l := range append(below(), nil, edges(of(1), 3, 1)) {
				refuse(l, d, from, api.ErrArg)
			}
		}
		for _, d := range []int{1, 5, maxSpan} {
			for _, l := range below() {
				refuse(l, d, from, api.ErrBelow)
			}
		}
	}
	for _, from := range never() {
		for _, l := range [][]api.Edge{nil, edges(of(1), 3, 1), wide(maxEdges, 3)} {
			refuse(l, 1, from, api.ErrTime)
			refuse(l, maxSpan, from, api.ErrTime)
		}
	}
}

// P33.1: as many jumps of a row, and as many edges, as there is room for, and more; what is ahead of a tick needs none.
func TestRoom(t *testing.T) {
	rows := func(count int) []api.Edge {
		var l []api.Edge
		for i := range count {
			l = append(l, steps(of(i), maxJumps/2, 2, 0)...)
		}
		return l
	}
	tests := []struct {
		l       []api.Edge
		d, from int
		count   int
		e       api.Errno
	}{
		{steps(of(1), maxJumps/2, 2, 0), 1, 0, maxJumps, api.OK},
		{steps(of(1), maxJumps/2+1, 2, 0), 1, 0, 0, api.ErrFull},
		{steps(of(1), maxJumps/2+1, 2, 0), 1, 1, maxJumps, api.OK},
		{steps(of(1), maxJumps, 2, 0), 1, maxJumps, maxJumps, api.OK},
		{steps(of(1), maxJumps, 2, 0), 1, maxJumps - 2, 0, api.ErrFull},
		{steps(of(1), maxJumps, 2, 0), 2, 0, 2, api.OK},
		{steps(of(1), maxJumps, 2, 0), 8, 0, 8, api.OK},
		{steps(of(1), maxJumps, 2, 0), maxJumps, 0, maxJumps, api.OK},
		{steps(of(1), maxJumps, 2, 0), maxJumps + 2, 0, 0, api.ErrFull},
		{steps(of(1), maxJumps, 2, 0), maxSpan, 0, 0, api.ErrFull},
		{steps(of(1), maxJumps, 2, forever-2*maxJumps), maxSpan, 0, maxJumps, api.OK},
		{wide(maxEdges/2, 3), 1, 0, maxEdges, api.OK},
		{wide(maxEdges/2+1, 3), 1, 0, 0, api.ErrFull},
		{wide(maxEdges, 3), 1, 0, 0, api.ErrFull},
		{wide(maxEdges, 3), 1, 4, 0, api.OK},
		{wide(maxEdges, before), 1, 0, 0, api.OK},
		{wide(maxEdges, last), 1, 0, maxEdges, api.OK},
		{wide(maxEdges, last-1), 1, 0, 0, api.ErrFull},
		{rows(4), 1, 0, maxEdges, api.OK},
		{rows(5), 1, 0, 0, api.ErrFull},
	}
	for i, x := range tests {
		got, e := life.Last(x.l, x.d, x.from)
		if len(got) != x.count || e != x.e || !edge.Table(got) {
			t.Error(i, len(got), e, x.count, x.e)
		}
	}
}

// dice are numbers without a pattern, the same each time.
type dice uint64

func (d *dice) roll(n int) int {
	*d = *d*6364136223846793005 + 1442695040888963407
	return int(uint64(*d)>>33) % n
}

// table is of a few rows at a few instants, from a place on.
func (d *dice) table(base, width int) []api.Edge {
	var l []api.Edge
	for range d.roll(9) {
		r, from, net := of(d.roll(3), d.roll(2))[:d.roll(3)], base+d.roll(width), 1+d.roll(3)
		l = append(l, edges(r, from, net)...)
		if d.roll(4) > 0 {
			l = append(l, edges(r, min(from+1+d.roll(width), forever), -net)...)
		}
	}
	made, e := edge.Norm(l...)
	if e != api.OK || !edge.Table(made) {
		panic(e)
	}
	return made
}

// rows are those that edges speak of.
func rows(l []api.Edge) []api.Row {
	var found []api.Row
	for _, e := range l {
		if !slices.ContainsFunc(found, func(r api.Row) bool { return slices.Equal(r, e.Row) }) {
			found = append(found, e.Row)
		}
	}
	return found
}

// times is the value of a row's function at an instant.
func times(l []api.Edge, r api.Row, at int) int {
	n := 0
	for _, e := range l {
		if slices.Equal(e.Row, r) && e.At <= at {
			n += e.Net
		}
	}
	return n
}

// started is how often a row had a start in the last ticks up to one, that one too, from a tick on.
func started(l []api.Edge, r api.Row, d, from, at int) int {
	n := 0
	for tick := max(0, from, at-d+1); tick <= at; tick++ {
		n += max(times(l, r, tick)-times(l, r, tick-1), 0)
	}
	return n
}

// P33.1, P33.2: at each tick a row is there as often as it had starts, not ahead of a tick, in the last ticks up to that one.
func TestTicks(t *testing.T) {
	d := dice(332)
	for i := range 3000 {
		base := before
		if i%3 == 0 {
			base = last - 13 // so that lifetimes are cut where all ticks end
		}
		l, long, from := d.table(base, 14), 1+d.roll(12), max(0, base+d.roll(12))
		got, e := life.Last(l, long, from)
		if e != api.OK || !edge.Table(got) {
			t.Fatal(got, e)
		}
		for _, r := range rows(slices.Concat(l, got)) {
			for at := base; at < min(base+40, forever); at++ {
				if n, want := times(got, r, at), started(l, r, long, from, at); n != want {
					t.Fatal(l, long, from, r, at, n, want)
				}
			}
		}
	}
}

// P33.3: what changes at a tick or later leaves the part ahead of it as it is.
func TestLater(t *testing.T) {
	d := dice(333)
	for range 5000 {
		l, long, from, at := d.table(before, 14), 1+d.roll(9), d.roll(9), d.roll(20)
		past, _ := edge.Ahead(l, at)
		other, e := edge.Add(past, d.table(at, 14))
		if e != api.OK || !edge.Table(other) {
			t.Fatal(e)
		}
		got, e := life.Last(l, long, from)
		now, f := life.Last(other, long, from)
		if e != api.OK || f != api.OK {
			t.Fatal(e, f)
		}
		got, _ = edge.Ahead(got, at)
		now, _ = edge.Ahead(now, at)
		expect(t, now, api.OK, got, api.OK)
	}
}

// P33.3: what is forgotten ahead of the tick from which starts count has no influence.
func TestForgotten(t *testing.T) {
	d := dice(334)
	for range 5000 {
		l, long, from := d.table(before, 14), 1+d.roll(9), d.roll(20)
		want, wanted := life.Last(l, long, from)
		left, e := edge.Rest(l, from)
		if e != api.OK {
			t.Fatal(e)
		}
		got, e := life.Last(left, long, from)
		expect(t, got, e, want, wanted)
	}
}

// P1, P2: any edges and numbers are answered: with a table, or with an error.
func TestAnything(t *testing.T) {
	d := dice(335)
	rows := []api.Row{nil, of(1), of(0, 0), {{}}, of(1, 2, 3, 4, 5, 6, 7, 8, 9)}
	places := []int{before, 0, 1, 2, 3, last, least, -2, forever, most}
	nets := []int{-2, -1, 1, 2, maxNet, -maxNet, least, 0, maxNet + 1, most}
	lengths := append(noLengths(), 1, 2, 3, maxSpan)
	ticks := append(never(), 0, 1, 2, last, forever)
	for range 200000 {
		var l []api.Edge
		for range d.roll(4) {
			l = append(l, edges(rows[d.roll(len(rows))], places[d.roll(len(places))], nets[d.roll(len(nets))])...)
		}
		if made, e := edge.Norm(l...); e == api.OK && d.roll(5) > 0 {
			l = made
		}
		long, from := lengths[d.roll(len(lengths))], ticks[d.roll(len(ticks))]
		got, e := life.Last(l, long, from)
		isWrong := !edge.Table(l) || slices.Contains(noLengths(), long) || slices.Contains(never(), from)
		if !edge.Table(got) || isWrong != (e != api.OK) || isWrong && got != nil {
			t.Fatal(l, long, from, got, e)
		}
	}
}

// P3: arguments are left as they are, and nothing that is told shares memory with them, or with anything else that is.
func TestOwnMemory(t *testing.T) {
	table := func() []api.Edge {
		return slices.Concat(edges(of(1, 2), 2, 1, 9, -1), edges(of(3, 4), 5, 1, 7, -1, 8, 2))
	}
	spare := append(make([]api.Edge, 0, 9), table()...)
	want, _ := life.Last(table(), 3, 0)
	got, _ := life.Last(spare, 3, 0)
	other, _ := life.Last(spare, 3, 0)
	if len(got) != 5 {
		t.Fatal(got)
	}
	for i := range got {
		_ = append(got[i].Row, value.Num(7))
		got[i].Row[0], got[i].At = value.Num(100+i), 77
	}
	for i := range got {
		if got[i].Row[0].Num != 100+i {
			t.Fatal("two rows of one answer share memory")
		}
	}
	_ = append(got, api.Edge{At: 3})
	if !same(spare, table()) || !same(spare[len(spare):cap(spare)], make([]api.Edge, 9-len(spare))) {
		t.Fatal("the argument changed", spare[:cap(spare)])
	}
	for i := range spare {
		spare[i].Row[0], spare[i].At = value.Num(55), 1
	}
	expect(t, other, api.OK, want, api.OK)
}
