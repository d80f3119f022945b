package window_test

import (
	"math"
	"slices"
	"strings"
	"testing"

	"rescind/api"
	"rescind/counts"
	"rescind/edge"
	"rescind/hop"
	"rescind/snap"
	"rescind/value"
	"rescind/window"
)

const (
	most       = math.MaxInt64
	least      = math.MinInt64
	before     = -1
	forever    = 1 << 50
	last       = forever - 1
	maxSpan    = 1 << 40
	maxNet     = 1 << 20
	maxJumps   = 1 << 10
	maxEdges   = 1 << 12
	maxWindows = 1 << 10
	maxCount   = 64
)

// of is a row of numbers.
func of(l ...int) api.Row {
	var r api.Row
	for _, n := range l {
		r = append(r, value.Num(n))
	}
	return r
}

// edges are those of a row, by their places and sizes, in turn.
func edges(r api.Row, l ...int) []api.Edge {
	var made []api.Edge
	for i := 0; i < len(l); i += 2 {
		made = append(made, api.Edge{Row: slices.Clone(r), At: l[i], Net: l[i+1]})
	}
	return made
}

// saw is the edges of a row that is there in turn and not, so many, one at each instant from a place on.
func saw(r api.Row, count, from int) []api.Edge {
	var l []api.Edge
	for i := range count {
		l = append(l, edges(r, from+i, 1-2*(i%2))...)
	}
	return l
}

// stairs are so many edges, each of another row that stays, at one place after the other.
func stairs(count, from int) []api.Edge {
	var l []api.Edge
	for i := range count {
		l = append(l, edges(of(i), from+i, 1)...)
	}
	return l
}

func snapshot() api.Window { return api.Window{Kind: api.Snapshot} }

func hopping(size, every int) api.Window {
	return api.Window{Kind: api.Hopping, Size: size, Hop: every}
}

func counting(size int) api.Window { return api.Window{Kind: api.Counting, Size: size} }

// valid are definitions of all kinds, with the least and the greatest numbers.
func valid() []api.Window {
	return []api.Window{snapshot(), hopping(1, 1), hopping(10, 5), hopping(2, 10), hopping(1, maxSpan), hopping(maxSpan, 1), hopping(maxSpan, maxSpan), counting(1), counting(2), counting(maxCount)}
}

// invalid are definitions of no kind, and of each kind with numbers that it may not have.
func invalid() []api.Window {
	l := []api.Window{{}, {Size: 1}, {Hop: 1}, {Size: 1, Hop: 1}, {Kind: -1}, {Kind: -1, Size: 1, Hop: 1}, {Kind: 4}, {Kind: 4, Size: 1, Hop: 1}, {Kind: least}, {Kind: most, Size: 1}}
	for _, n := range []int{-1, least, 1, 2, maxCount, maxSpan, most} {
		l = append(l, api.Window{Kind: api.Snapshot, Size: n}, api.Window{Kind: api.Snapshot, Hop: n}, api.Window{Kind: api.Snapshot, Size: n, Hop: n}, api.Window{Kind: api.Counting, Size: 2, Hop: n}, api.Window{Kind: api.Counting, Hop: n})
	}
	for _, n := range []int{0, -1, least, maxSpan + 1, most} {
		l = append(l, hopping(n, 1), hopping(1, n), hopping(n, n), hopping(maxSpan, n))
	}
	for _, n := range []int{0, -1, least, maxCount + 1, maxSpan, most} {
		l = append(l, counting(n))
	}
	return l
}

// part is a window by its lifetime, its rows, and how often each is there.
func part(from, to int, rows ...api.Copy) api.Part {
	return api.Part{Span: api.Span{From: from, To: to}, Rows: rows}
}

func times(n int, r api.Row) api.Copy { return api.Copy{Row: r, N: n} }

// same holds parts against each other, without the program's help.
func same(a, b []api.Part) bool {
	return slices.EqualFunc(a, b, func(x, y api.Part) bool {
		return x.Span == y.Span && slices.EqualFunc(x.Rows, y.Rows, func(c, d api.Copy) bool {
			return c.N == d.N && slices.Equal(c.Row, d.Row)
		})
	})
}

func clock(t *testing.T, w api.Window, l []api.Edge, at, want int, wanted api.Errno) {
	t.Helper()
	if got, e := window.Clock(w, l, at); got != want || e != wanted {
		t.Fatalf("clock %v at %d: %d, error %d, and not %d, error %d", w, at, got, e, want, wanted)
	}
}

func parts(t *testing.T, w api.Window, l []api.Edge, from, at int, want []api.Part, wanted api.Errno) {
	t.Helper()
	if got, e := window.Parts(w, l, from, at); !same(got, want) || e != wanted {
		t.Fatalf("parts %v from %d at %d: %v, error %d, and not %v, error %d", w, from, at, got[:min(len(got), 20)], e, want[:min(len(want), 20)], wanted)
	}
}

// never are ticks that are none.
func never() []int { return []int{before, -2, least, forever + 1, most} }

// none are lists of edges that are not in form.
func none() [][]api.Edge {
	return [][]api.Edge{
		make([]api.Edge, 1),
		{{}, {}},
		edges(of(1), 6, 0),
		edges(of(1), 6, maxNet+1),
		edges(of(1), 6, least),
		edges(of(1), -2, 1),
		edges(of(1), most, 1),
		edges(of(1), forever, 1),
		edges(of(1), 6, 1, forever, -1),
		edges(of(1), 8, 1, 6, 1),
		edges(of(1), 6, 1, 6, 1),
		edges(of(1, 2, 3, 4, 5, 6, 7, 8, 9), 6, 1),
		edges(api.Row{{}}, 6, 1),
		edges(api.Row{{Kind: api.Text, Text: strings.Repeat("a", 65)}}, 6, 1),
		slices.Concat(edges(of(2), 6, 1), edges(of(1), 6, 1)),
		slices.Concat(edges(of(1), 6, -1), edges(of(2), 6, 0)),
		saw(of(1), maxJumps+1, 0),
		stairs(maxEdges+1, 0),
	}
}

// below are edges in form of which a row is there fewer times than none.
func below() [][]api.Edge {
	return [][]api.Edge{
		edges(of(1), 3, -1),
		edges(of(1), before, -1),
		edges(of(1), before, -1, 0, 1),
		edges(of(1), 2, 1, 4, -2),
		edges(of(1), last, -1),
		slices.Concat(edges(of(1), 2, 1), edges(of(2), 3, -1)),
		saw(of(1), 4, 0)[1:],
	}
}

// P30.1: the numbers that each kind has, and no others.
func TestCheck(t *testing.T) {
	for _, w := range valid() {
		if e := window.Check(w); e != api.OK {
			t.Error(w, e)
		}
	}
	for _, w := range invalid() {
		if e := window.Check(w); e != api.ErrArg {
			t.Error(w, e)
		}
	}
}

// P30.1, P30.2, P30.3, P30.4: the document's examples.
func TestExamples(t *testing.T) {
	if e := window.Check(api.Window{Kind: api.Snapshot, Size: 1}); e != api.ErrArg {
		t.Fatal(e)
	}
	clock(t, hopping(10, 5), nil, 12, 5, api.OK)
	l := edges(of(1), 3, 1, 7, -1)
	parts(t, hopping(10, 5), l, 0, 2, []api.Part{part(0, 10, times(1, of(1)))}, api.OK)
	// The front at 2 is 4: the window that begins at 3 is ahead of it, that at 4 is not.
	parts(t, hopping(1, 1), l, 0, 2, []api.Part{part(3, 4, times(1, of(1)))}, api.OK)
}

// P30.1: the clock of each kind, at the ends of time, with and without gaps between windows.
func TestClock(t *testing.T) {
	l := slices.Concat(edges(of(1), 3, 1, 7, -1), edges(of(2), before, 1, 13, 1))
	tests := []struct {
		w        api.Window
		at, want int
	}{
		{snapshot(), 0, 0}, {snapshot(), 12, 12}, {snapshot(), last, last}, {snapshot(), forever, forever},
		{hopping(10, 5), 0, 0}, {hopping(10, 5), 9, 0}, {hopping(10, 5), 10, 5}, {hopping(10, 5), 14, 5}, {hopping(10, 5), 15, 10}, {hopping(10, 5), forever, forever},
		{hopping(2, 10), 0, 0}, {hopping(2, 10), 1, 0}, {hopping(2, 10), 2, 2}, {hopping(2, 10), 7, 7}, {hopping(2, 10), 10, 10}, {hopping(2, 10), 11, 10}, {hopping(2, 10), 12, 12}, {hopping(2, 10), forever, forever},
		{hopping(1, 1), 8, 8}, {hopping(maxSpan, maxSpan), maxSpan - 1, 0}, {hopping(maxSpan, maxSpan), maxSpan, maxSpan}, {hopping(maxSpan, 1), last, forever - maxSpan}, {hopping(1, maxSpan), last, last},
		{counting(1), 0, 0}, {counting(1), 12, 12}, {counting(1), 14, 14}, {counting(1), forever, forever},
		{counting(2), 0, 0}, {counting(2), 2, 2}, {counting(2), 3, 3}, {counting(2), 4, 3}, {counting(2), 13, 3}, {counting(2), 14, 13}, {counting(2), last, 13}, {counting(2), forever, forever},
		{counting(3), 2, 2}, {counting(3), 14, 3}, {counting(maxCount), last, 3}, {counting(maxCount), forever, forever},
	}
	for _, x := range tests {
		clock(t, x.w, l, x.at, x.want, api.OK)
	}
	for _, n := range []int{1, 2, maxCount} {
		clock(t, counting(n), nil, 7, 7, api.OK)
	}
}

// P30.1, P30.2: which error is told where several things are wrong.
func TestErrors(t *testing.T) {
	ticks := []int{0, 5, forever}
	refuse := func(w api.Window, l []api.Edge, from, at int, want api.Errno) {
		t.Helper()
		clock(t, w, l, at, 0, want)
		parts(t, w, l, from, at, nil, want)
	}
	for _, at := range append(never(), ticks...) {
		for _, w := range invalid() {
			for _, l := range append(below(), nil, edges(of(1), 3, 1), edges(of(1), 3, 0)) {
				refuse(w, l, at, at, api.ErrArg)
			}
		}
		for _, w := range valid() {
			for _, l := range none() {
				refuse(w, l, at, at, api.ErrArg)
			}
			for _, l := range below() {
				refuse(w, l, at, at, api.ErrBelow)
			}
		}
	}
	for _, w := range valid() {
		for _, l := range [][]api.Edge{nil, edges(of(1), 3, 1, 7, -1), stairs(maxEdges, 0)} {
			for _, n := range never() {
				refuse(w, l, 0, n, api.ErrTime)
				refuse(w, l, n, n, api.ErrTime)
				parts(t, w, l, n, 0, nil, api.ErrTime)
				parts(t, w, l, n, forever, nil, api.ErrTime)
			}
		}
	}
}

// P30.2: the windows of each kind, from a tick on; those that hop, ahead of the front.
func TestParts(t *testing.T) {
	one, two := of(1), of(2)
	l := slices.Concat(edges(one, 3, 1, 7, -1), edges(two, before, 1, 13, 1))
	tests := []struct {
		w        api.Window
		l        []api.Edge
		from, at int
		want     []api.Part
	}{
		{snapshot(), nil, 0, 0, nil},
		{snapshot(), l, 0, 0, []api.Part{part(0, 3, times(1, two)), part(3, 7, times(1, one), times(1, two)), part(7, 13, times(1, two)), part(13, forever, times(2, two))}},
		{snapshot(), l, 5, 0, []api.Part{part(5, 7, times(1, one), times(1, two)), part(7, 13, times(1, two)), part(13, forever, times(2, two))}},
		{snapshot(), l, 5, forever, []api.Part{part(5, 7, times(1, one), times(1, two)), part(7, 13, times(1, two)), part(13, forever, times(2, two))}},
		{snapshot(), l, forever, 0, nil},
		{hopping(10, 5), nil, 0, forever, nil},
		{hopping(10, 5), l, 0, 0, []api.Part{part(0, 10, times(1, one), times(1, two)), part(5, 15, times(1, one), times(2, two)), part(10, 20, times(2, two))}},
		{hopping(10, 5), l, 0, 14, []api.Part{part(0, 10, times(1, one), times(1, two)), part(5, 15, times(1, one), times(2, two)), part(10, 20, times(2, two))}},
		{hopping(10, 5), l, 0, 16, []api.Part{part(0, 10, times(1, one), times(1, two)), part(5, 15, times(1, one), times(2, two)), part(10, 20, times(2, two)), part(15, 25, times(2, two))}},
		{hopping(10, 5), l, 6, 16, []api.Part{part(10, 20, times(2, two)), part(15, 25, times(2, two))}},
		{hopping(10, 5), l, 16, 16, nil},
		{hopping(10, 5), l, forever, 0, nil},
		{hopping(2, 10), l, 0, 0, []api.Part{part(0, 2, times(1, two)), part(10, 12, times(1, two))}},
		{hopping(1, 1), l, 10, 0, []api.Part{part(10, 11, times(1, two)), part(11, 12, times(1, two)), part(12, 13, times(1, two)), part(13, 14, times(2, two))}},
		{hopping(1, 1), edges(one, before, 1), 0, 0, nil},
		{hopping(1, 1), edges(one, before, 1), 0, 1, []api.Part{part(0, 1, times(1, one))}},
		{hopping(1, 1), edges(one, 0, 1), 0, 0, []api.Part{part(0, 1, times(1, one))}},
		{hopping(5, 5), edges(one, 3, 2, 7, -1), 0, 2, []api.Part{part(0, 5, times(2, one))}},
		{hopping(5, 5), edges(one, 3, 2, 7, -1), 0, 6, []api.Part{part(0, 5, times(2, one)), part(5, 10, times(2, one))}},
		{hopping(1, 1), slices.Concat(edges(one, 6, 1), edges(two, 2, 1, 3, -1)), 0, 0, []api.Part{part(2, 3, times(1, two)), part(6, 7, times(1, one))}},
		{hopping(maxSpan, maxSpan), edges(one, last, 1), 0, 0, []api.Part{part(forever-maxSpan, forever, times(1, one))}},
		{hopping(1, 1), edges(one, last, 1), 0, 0, []api.Part{part(last, forever, times(1, one))}},
		{counting(2), nil, 0, forever, nil},
		{counting(1), l, 0, 0, []api.Part{part(3, 4, times(1, one)), part(13, 14, times(1, two))}},
		{counting(2), l, 0, 0, []api.Part{part(3, 14, times(1, one), times(1, two))}},
		{counting(2), l, 3, forever, []api.Part{part(3, 14, times(1, one), times(1, two))}},
		{counting(2), l, 4, 0, nil},
		{counting(3), l, 0, forever, nil},
		{counting(1), l, 4, 0, []api.Part{part(13, 14, times(1, two))}},
	}
	for _, x := range tests {
		parts(t, x.w, x.l, x.from, x.at, x.want, api.OK)
	}
}

// P30.2: as many windows as there may be, and one more.
func TestFull(t *testing.T) {
	tests := []struct {
		w        api.Window
		l        []api.Edge
		from, at int
		want     int
		e        api.Errno
	}{
		{snapshot(), stairs(maxWindows, 1), 0, 0, maxWindows, api.OK},
		{snapshot(), stairs(maxWindows+1, 1), 0, 0, 0, api.ErrFull},
		{snapshot(), stairs(maxWindows+1, 1), 2, 0, maxWindows, api.OK},
		{hopping(1, 1), edges(of(1), 0, 1), 0, maxWindows, maxWindows, api.OK},
		{hopping(1, 1), edges(of(1), 0, 1), 0, maxWindows + 1, 0, api.ErrFull},
		{hopping(1, 1), edges(of(1), 0, 1), 1, maxWindows + 1, maxWindows, api.OK},
		{hopping(1, 1), stairs(maxWindows, 0), 0, 0, maxWindows, api.OK},
		{hopping(1, 1), stairs(maxWindows+1, 0), 0, 0, 0, api.ErrFull},
		{hopping(1, 1), edges(of(1), 0, 1), 0, forever, 0, api.ErrFull},
		{counting(1), stairs(maxWindows, 0), 0, 0, maxWindows, api.OK},
		{counting(1), stairs(maxWindows+1, 0), 0, 0, 0, api.ErrFull},
		{counting(maxCount), stairs(maxWindows+maxCount, 0), 0, 0, 0, api.ErrFull},
		{counting(maxCount), stairs(maxWindows+maxCount, 0), 1, 0, maxWindows, api.OK},
	}
	for i, x := range tests {
		if got, e := window.Parts(x.w, x.l, x.from, x.at); len(got) != x.want || e != x.e {
			t.Error(i, len(got), e)
		}
	}
}

// dice are numbers without a pattern, the same each time.
type dice uint64

func (d *dice) roll(n int) int {
	*d = *d*6364136223846793005 + 1442695040888963407
	return int(uint64(*d)>>33) % n
}

// table is of a few rows at a few instants, from a place on.
func (d *dice) table(base, width int) []api.Edge {
	var l []api.Edge
	for range d.roll(9) {
		r, from, net := of(d.roll(3), d.roll(2))[:d.roll(3)], base+d.roll(width), 1+d.roll(3)
		l = append(l, edges(r, from, net)...)
		if d.roll(4) > 0 {
			l = append(l, edges(r, min(from+1+d.roll(width), forever), -net)...)
		}
	}
	made, e := edge.Norm(l...)
	if e != api.OK || !edge.Table(made) {
		panic(e)
	}
	return made
}

// window is a definition of any kind, with small numbers.
func (d *dice) window() api.Window {
	return []api.Window{snapshot(), hopping(1+d.roll(9), 1+d.roll(9)), counting(1 + d.roll(5))}[d.roll(3)]
}

// meant is the windows that the packages of the kinds tell, the front found tick by tick.
func meant(w api.Window, l []api.Edge, from, at int) ([]api.Part, api.Errno) {
	switch w.Kind {
	case api.Snapshot:
		return snap.Parts(l, from)
	case api.Counting:
		return counts.Parts(l, w.Size, from)
	}
	front := at
	for later := at; later < at+60; later++ {
		if slices.ContainsFunc(l, func(e api.Edge) bool { return e.Net > 0 && e.At == later }) {
			front = later + 1
		}
	}
	return hop.Parts(l, w.Size, w.Hop, from, front)
}

// P30.1, P30.2: tables held against what the packages of the kinds tell.
func TestMeaning(t *testing.T) {
	d := dice(301)
	for range 10000 {
		l, w, from, at := d.table(before, 14), d.window(), d.roll(25), d.roll(25)
		want, e := meant(w, l, from, at)
		parts(t, w, l, from, at, want, e)
		wanted := at
		switch w.Kind {
		case api.Hopping:
			wanted, e = hop.Open(w.Size, w.Hop, at)
			wanted = min(wanted, at)
		case api.Counting:
			wanted, e = counts.Open(l, w.Size, at)
		}
		clock(t, w, l, at, wanted, e)
	}
}

// ahead is the part of windows ahead of a tick.
func ahead(l []api.Part, t int) []api.Part {
	var cut []api.Part
	for _, p := range l {
		if p.Span.From < t {
			p.Span.To = min(p.Span.To, t)
			cut = append(cut, p)
		}
	}
	return cut
}

// P30.3: the clock is not above the tick, and what changes at the tick or later leaves it as it is, and the windows ahead of it.
func TestCertain(t *testing.T) {
	d := dice(303)
	for range 20000 {
		l, w, at := d.table(before, 14), d.window(), d.roll(25)
		past, e := edge.Ahead(l, at)
		if e != api.OK {
			t.Fatal(e)
		}
		other, e := edge.Add(past, d.table(at, 14))
		if e != api.OK || !edge.Table(other) {
			t.Fatal(e)
		}
		c, e := window.Clock(w, l, at)
		if e != api.OK || c > at {
			t.Fatal(w, at, c, e)
		}
		clock(t, w, other, at, c, api.OK)
		from := d.roll(5)
		got, e := window.Parts(w, l, from, at)
		now, f := window.Parts(w, other, from, at+d.roll(9))
		if e != api.OK || f != api.OK || !same(ahead(got, c), ahead(now, c)) {
			t.Fatal(w, l, other, at, c, got, now, e, f)
		}
	}
}

// P30.4: what is forgotten ahead of the clock changes neither that nor the windows from there on.
func TestForgotten(t *testing.T) {
	d := dice(304)
	for range 20000 {
		l, w, at := d.table(before, 14), d.window(), d.roll(25)
		c, e := window.Clock(w, l, at)
		if e != api.OK {
			t.Fatal(e)
		}
		left, e := edge.Rest(l, c)
		if e != api.OK {
			t.Fatal(e)
		}
		want, e := window.Parts(w, l, c, at)
		if e != api.OK {
			t.Fatal(e)
		}
		clock(t, w, left, at, c, api.OK)
		parts(t, w, left, c, at, want, api.OK)
	}
}

// P3: arguments are left as they are, and nothing that is told shares memory with them, or with anything else that is.
func TestOwnMemory(t *testing.T) {
	a, b := of(1, 2), of(3, 4)
	table := func() []api.Edge { return slices.Concat(edges(a, 2, 1, 9, -1), edges(b, 5, 1, 7, -1, 8, 2)) }
	for _, w := range []api.Window{snapshot(), hopping(4, 3), counting(2)} {
		spare := append(make([]api.Edge, 0, 9), table()...)
		got, _ := window.Parts(w, spare, 0, 20)
		other, _ := window.Parts(w, spare, 0, 20)
		wanted, _ := window.Parts(w, table(), 0, 20)
		if len(got) < 2 {
			t.Fatal(w, got)
		}
		for i := range got {
			for k, c := range got[i].Rows {
				_ = append(c.Row, value.Num(7))
				c.Row[0], c.Row[1] = value.Num(100*i+k), value.Num(8)
				got[i].Rows[k].N = 50
			}
			_ = append(got[i].Rows, api.Copy{N: 9})
		}
		for i := range got {
			for k, c := range got[i].Rows {
				if c.Row[0].Num != 100*i+k {
					t.Fatal("shared within the answer", w, got)
				}
			}
		}
		for i, e := range spare[:cap(spare)] {
			if i < len(spare) && (!slices.Equal(e.Row, table()[i].Row) || e.At != table()[i].At || e.Net != table()[i].Net) || i >= len(spare) && (e.Row != nil || e.At != 0 || e.Net != 0) {
				t.Fatal("the argument changed", w, i, e)
			}
		}
		for i := range spare {
			spare[i].Row[0], spare[i].At = value.Num(55), 1
		}
		if !same(other, wanted) {
			t.Fatal("shared with the argument or another answer", w, other)
		}
	}
}
