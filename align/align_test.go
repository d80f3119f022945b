package align_test

import (
	"math"
	"slices"
	"strings"
	"testing"

	"rescind/align"
	"rescind/api"
	"rescind/edge"
	"rescind/value"
)

const (
	most       = math.MaxInt64
	least      = math.MinInt64
	before     = -1
	forever    = 1 << 50
	last       = forever - 1
	maxNet     = 1 << 20
	maxJumps   = 1 << 10
	maxEdges   = 1 << 12
	maxStreams = 8
)

func number(n int) api.Value { return value.Num(n) }

func text(s string) api.Value { return api.Value{Kind: api.Text, Text: s} }

func one(n int) api.Row { return api.Row{number(n)} }

// noRows are lists of values that are no rows.
func noRows() []api.Row {
	return []api.Row{{{}}, {number(1), {}}, {{Kind: 3}}, {{Kind: api.Number, Text: "a"}}, {text(strings.Repeat("a", 65))}, slices.Repeat(one(0), 9), make(api.Row, 1)}
}

// edges are those of a row, by their places and sizes, in turn.
func edges(r api.Row, l ...int) []api.Edge {
	var made []api.Edge
	for i := 0; i < len(l); i += 2 {
		made = append(made, api.Edge{Row: slices.Clone(r), At: l[i], Net: l[i+1]})
	}
	return made
}

// saw is the edges of a row that is there in turn and not, so many, from a place on.
func saw(r api.Row, count, from int) []api.Edge {
	var l []api.Edge
	for i := range count {
		l = append(l, edges(r, from+i, 1-2*(i%2))...)
	}
	return l
}

// wide are so many edges, each of another row.
func wide(count int) []api.Edge {
	var l []api.Edge
	for i := range count {
		l = append(l, edges(one(i), 3, 1)...)
	}
	return l
}

// none are lists of edges that are not in form.
func none() [][]api.Edge {
	l := [][]api.Edge{
		make([]api.Edge, 1),
		edges(one(1), 6, 0),
		edges(one(1), 6, maxNet+1),
		edges(one(1), 6, -maxNet-1),
		edges(one(1), 6, most),
		edges(one(1), -2, 1),
		edges(one(1), least, 1),
		edges(one(1), forever, 1),
		edges(one(1), 6, 1, forever, -1),
		edges(one(1), most, 1),
		edges(one(1), 8, 1, 6, 1),
		edges(one(1), 6, 1, 6, 1),
		slices.Concat(edges(one(2), 6, 1), edges(one(1), 6, 1)),
		slices.Concat(edges(one(1), 6, 1), edges(one(2), 6, 1), edges(one(1), 7, 1)),
		saw(one(1), maxJumps+1, 6),
		wide(maxEdges + 1),
	}
	for _, r := range noRows() {
		l = append(l, edges(r, 6, 1), slices.Concat(edges(one(1), 6, 1), edges(r, 6, 1)))
	}
	return l
}

// of is an align with clocks, one for each input.
func of(t *testing.T, clocks ...int) *align.Align {
	t.Helper()
	a, e := align.New(len(clocks))
	if e != api.OK {
		t.Fatal(e)
	}
	raise(t, a, clocks...)
	return a
}

func raise(t *testing.T, a *align.Align, clocks ...int) {
	t.Helper()
	for k, clock := range clocks {
		if e := a.Raise(k, clock); e != api.OK {
			t.Fatalf("raise input %d to %d: %d", k, clock, e)
		}
	}
}

func put(t *testing.T, a *align.Align, k int, l []api.Edge) {
	t.Helper()
	if e := a.Put(k, l); e != api.OK {
		t.Fatalf("put into %d: %d", k, e)
	}
}

// release holds what is released against lists, one for each input.
func release(t *testing.T, a *align.Align, want ...[]api.Edge) {
	t.Helper()
	if got := a.Release(); !slices.EqualFunc(got, want, edge.Same) {
		t.Fatalf("released %v, and not %v", got, want)
	}
}

// expect holds the clock and the number of edges that are held against others.
func expect(t *testing.T, a *align.Align, clock, held int) {
	t.Helper()
	if a.Clock() != clock || a.Held() != held {
		t.Fatalf("clock %d with %d edges, and not %d with %d", a.Clock(), a.Held(), clock, held)
	}
}

// P16.1: the document's examples, and the ends.
func TestNew(t *testing.T) {
	for n := 1; n <= maxStreams; n++ {
		a, e := align.New(n)
		if a == nil || e != api.OK {
			t.Fatal(n, e)
		}
		expect(t, a, 0, 0)
		release(t, a, make([][]api.Edge, n)...)
		for _, k := range []int{0, n - 1} {
			if e := a.Put(k, edges(one(1), 0, 1)); e != api.OK {
				t.Error(n, k, e)
			}
		}
		for _, k := range []int{least, -1, n, n + 1, most} {
			if a.Put(k, nil) != api.ErrRange || a.Raise(k, 0) != api.ErrRange {
				t.Error(n, k)
			}
		}
	}
	for _, n := range []int{least, -maxStreams, -1, 0, 9, 10, 1 << 40, most} {
		if a, e := align.New(n); a != nil || e != api.ErrArg {
			t.Error(n, a, e)
		}
	}
}

// P16.1 and P16.2
func TestNil(t *testing.T) {
	var a *align.Align
	for _, k := range []int{least, -1, 0, 1, most} {
		if a.Put(k, nil) != api.ErrNil || a.Put(k, edges(one(1), 2, 0)) != api.ErrNil || a.Put(k, edges(one(1), 2, 1)) != api.ErrNil {
			t.Error("put", k)
		}
		if a.Raise(k, 0) != api.ErrNil || a.Raise(k, -1) != api.ErrNil || a.Raise(k, 5) != api.ErrNil {
			t.Error("raise", k)
		}
	}
	if a.Clock() != 0 || a.Held() != 0 || len(a.Release()) != 0 {
		t.Error("a nil align is not empty")
	}
}

// P16.1: what is put in is added up, input by input.
func TestPut(t *testing.T) {
	a := of(t, 0, 0)
	put(t, a, 0, nil)
	put(t, a, 0, []api.Edge{})
	expect(t, a, 0, 0)
	put(t, a, 0, edges(one(1), 2, 1, 9, -1))
	expect(t, a, 0, 2)
	put(t, a, 0, edges(one(1), 7, -1, 9, 1))
	expect(t, a, 0, 2)
	put(t, a, 1, edges(one(1), 2, 1, 9, -1))
	expect(t, a, 0, 4)
	put(t, a, 0, slices.Concat(edges(nil, 3, -2), edges(one(1), 7, 3), edges(one(2), last, maxNet)))
	expect(t, a, 0, 6)
	put(t, a, 1, edges(one(1), 2, -1, 9, 1))
	expect(t, a, 0, 4)
	raise(t, a, forever, forever)
	release(t, a, slices.Concat(edges(nil, 3, -2), edges(one(1), 2, 1, 7, 2), edges(one(2), last, maxNet)), nil)
	expect(t, a, forever, 0)
}

// P16.1: the document's example, and each error, ahead of those behind it; nothing changes.
func TestPutErrors(t *testing.T) {
	tests := []struct {
		k int
		l []api.Edge
		e api.Errno
	}{
		{-1, nil, api.ErrRange},
		{2, nil, api.ErrRange},
		{least, edges(one(1), 6, 1), api.ErrRange},
		{most, edges(one(1), 6, 1), api.ErrRange},
		{2, edges(one(1), 6, 0), api.ErrRange},
		{-1, edges(one(1), 2, 1), api.ErrRange},
		{0, edges(one(1), 2, 0), api.ErrArg},
		{0, edges(one(1), 6, 1, 2, 1), api.ErrArg},
		{0, saw(one(1), maxJumps+1, 2), api.ErrArg},
		{0, wide(maxEdges + 1), api.ErrArg},
		{0, edges(one(1), 2, 1), api.ErrLate},
		{0, edges(one(1), 4, 1), api.ErrLate},
		{0, edges(one(1), 0, 1), api.ErrLate},
		{0, edges(one(1), before, 1), api.ErrLate},
		{1, edges(one(1), before, 1), api.ErrLate},
		{0, edges(one(1), 4, 1, 6, -1), api.ErrLate},
		{0, slices.Concat(edges(one(1), 6, 1), edges(one(2), 2, 1)), api.ErrLate},
		{0, slices.Concat(edges(one(1), 2, 1), edges(one(2), 6, 1)), api.ErrLate},
		{0, edges(one(1), 2, 1, 6, maxNet), api.ErrLate},
		{0, edges(one(1), 6, maxNet), api.ErrFull}, // with the one that is there it is more than an edge may be
		{0, edges(one(1), 2, -1, 6, maxNet), api.ErrLate},
		{1, saw(one(1), maxJumps, 10), api.ErrFull},
		{1, wide(maxEdges), api.ErrFull},
	}
	a := of(t, 5, 0)
	put(t, a, 0, edges(one(1), 6, 1, 9, -1))
	put(t, a, 1, edges(one(1), 2, 1))
	for _, test := range tests {
		for range 2 {
			if e := a.Put(test.k, test.l); e != test.e {
				t.Errorf("put %v into %d: %d, and not %d", test.l[:min(len(test.l), 9)], test.k, e, test.e)
			}
			expect(t, a, 0, 3)
		}
	}
	for _, l := range none() {
		if e := a.Put(0, l); e != api.ErrArg {
			t.Errorf("put %v: %d", l[:min(len(l), 9)], e)
		}
		expect(t, a, 0, 3)
	}
	raise(t, a, forever, forever)
	release(t, a, edges(one(1), 6, 1, 9, -1), edges(one(1), 2, 1))
}

// P16.1: an edge may be at the clock of its input, whatever the other clocks are.
func TestPutAtClock(t *testing.T) {
	a := of(t, 5, 0, 9)
	for k, clock := range []int{5, 0, 9} {
		put(t, a, k, edges(one(k), clock, 1, clock+1, -1))
		if e := a.Put(k, edges(one(k), clock-1, 1)); e != api.ErrLate {
			t.Error(k, e)
		}
	}
	expect(t, a, 0, 6)
	release(t, a, nil, nil, nil)
	a = of(t, last)
	put(t, a, 0, edges(one(1), last, 1))
	raise(t, a, forever)
	if e := a.Put(0, edges(one(1), last, 1)); e != api.ErrLate {
		t.Error(e)
	}
	put(t, a, 0, nil)
	release(t, a, edges(one(1), last, 1))
}

// P16.1: how much there is room for is asked for each input by itself, and again after a release.
func TestPutRoom(t *testing.T) {
	a := of(t, 0, 0)
	put(t, a, 0, wide(maxEdges))
	put(t, a, 1, wide(maxEdges))
	expect(t, a, 0, 2*maxEdges)
	for k := range 2 {
		if e := a.Put(k, edges(one(maxEdges), 5, 1)); e != api.ErrFull {
			t.Error(k, e)
		}
		put(t, a, k, edges(one(7), 3, 1))
	}
	raise(t, a, 4, 3)
	release(t, a, nil, nil)
	raise(t, a, 4, 4)
	twice := wide(maxEdges)
	twice[7].Net = 2
	release(t, a, twice, twice)
	expect(t, a, 4, 0)
	put(t, a, 0, edges(one(maxEdges), 5, 1))
	put(t, a, 0, saw(one(1), maxJumps, 4))
	if e := a.Put(0, edges(one(1), 4+maxJumps, 1)); e != api.ErrFull {
		t.Error(e)
	}
	expect(t, a, 4, maxJumps+1)
	raise(t, a, 5, 5)
	release(t, a, edges(one(1), 4, 1), nil)
	put(t, a, 0, edges(one(1), 4+maxJumps, 1))
	expect(t, a, 5, maxJumps+1)
}

// P16.1: the document's example, and each error, ahead of those behind it; nothing changes.
func TestRaise(t *testing.T) {
	tests := []struct {
		k, at int
		e     api.Errno
	}{
		{-1, 3, api.ErrRange},
		{2, 3, api.ErrRange},
		{least, -1, api.ErrRange},
		{most, forever + 1, api.ErrRange},
		{2, 2, api.ErrRange},
		{0, before, api.ErrTime},
		{0, least, api.ErrTime},
		{0, forever + 1, api.ErrTime},
		{0, most, api.ErrTime},
		{1, before, api.ErrTime},
		{0, 2, api.ErrLate},
		{0, 0, api.ErrLate},
		{1, 6, api.ErrLate},
	}
	a := of(t, 3, 7)
	put(t, a, 0, edges(one(1), 3, 1))
	for _, test := range tests {
		if e := a.Raise(test.k, test.at); e != test.e {
			t.Errorf("raise %d to %d: %d, and not %d", test.k, test.at, e, test.e)
		}
		expect(t, a, 3, 1)
	}
	release(t, a, nil, nil)
	for _, at := range []int{3, 3, 4, last, forever, forever} {
		if e := a.Raise(0, at); e != api.OK {
			t.Error(at, e)
		}
		expect(t, a, min(at, 7), 1)
	}
	if e := a.Raise(0, last); e != api.ErrLate {
		t.Error(e)
	}
	raise(t, a, forever, forever)
	expect(t, a, forever, 1)
}

// P16.2: the clock is the least one, whichever input has it.
func TestClock(t *testing.T) {
	for n := 1; n <= maxStreams; n++ {
		for k := range n {
			clocks := slices.Repeat([]int{forever}, n)
			clocks[k] = 6
			expect(t, of(t, clocks...), 6, 0)
			clocks[k] = 0
			expect(t, of(t, clocks...), 0, 0)
		}
		expect(t, of(t, slices.Repeat([]int{forever}, n)...), forever, 0)
	}
	expect(t, of(t, 9, 4, 7), 4, 0)
	expect(t, of(t, 5, 3), 3, 0)
}

// P16.2: the document's example, and what is released later.
func TestRelease(t *testing.T) {
	a := of(t, 0, 0)
	put(t, a, 0, edges(one(1), 2, 1, 7, -1))
	put(t, a, 1, slices.Concat(edges(one(1), 2, 4, 3, -1), edges(one(2), 0, 1, 5, 3)))
	raise(t, a, 5, 3)
	expect(t, a, 3, 6)
	release(t, a, edges(one(1), 2, 1), slices.Concat(edges(one(1), 2, 4), edges(one(2), 0, 1)))
	expect(t, a, 3, 3)
	release(t, a, nil, nil)
	expect(t, a, 3, 3)
	raise(t, a, 5, 5)
	release(t, a, nil, edges(one(1), 3, -1))
	put(t, a, 0, edges(one(1), 5, 2, 7, 1))
	expect(t, a, 5, 2)
	raise(t, a, 8, 6)
	release(t, a, edges(one(1), 5, 2), edges(one(2), 5, 3))
	expect(t, a, 6, 0)
	release(t, a, nil, nil)
}

// P16.2: an edge at the clock is held, one ahead of it is not.
func TestReleaseEnds(t *testing.T) {
	l := slices.Concat(edges(nil, 0, 1, 4, 1, 5, 1, 6, 1), edges(one(1), 5, 1), edges(one(2), 4, 1, last, 1))
	a := of(t, 0)
	put(t, a, 0, l)
	release(t, a, nil)
	raise(t, a, 5)
	release(t, a, slices.Concat(edges(nil, 0, 1, 4, 1), edges(one(2), 4, 1)))
	expect(t, a, 5, 4)
	raise(t, a, last)
	release(t, a, slices.Concat(edges(nil, 5, 1, 6, 1), edges(one(1), 5, 1)))
	raise(t, a, forever)
	release(t, a, edges(one(2), last, 1))
	expect(t, a, forever, 0)
}

// dice are numbers without a pattern, the same each time.
type dice uint64

func (d *dice) roll(n int) int {
	*d = *d*6364136223846793005 + 1442695040888963407
	return int(uint64(*d)>>33) % n
}

// edges are some, now and then not in form.
func (d *dice) edges(ticks int) []api.Edge {
	var l []api.Edge
	for range d.roll(4) {
		l = append(l, api.Edge{Row: one(d.roll(3)), At: d.roll(ticks+1) - d.roll(20)/19, Net: d.roll(5) - 2})
	}
	if norm, e := edge.Norm(l...); e == api.OK && d.roll(9) > 0 {
		return norm
	}
	return l
}

// place is a row and an instant.
type place struct{ row, at int }

// record is what an align is told, as the document says it: each input has a clock, and holds so much of each row at each instant.
type record []struct {
	clock int
	held  map[place]int
}

func recordOf(n int) record {
	r := make(record, n)
	for k := range r {
		r[k].held = map[place]int{}
	}
	return r
}

func (r record) put(k int, l []api.Edge) api.Errno {
	if k < 0 || k >= len(r) {
		return api.ErrRange
	}
	if !edge.May(l) {
		return api.ErrArg
	}
	for _, e := range l {
		if e.At < r[k].clock {
			return api.ErrLate
		}
	}
	for _, e := range l {
		r[k].held[place{e.Row[0].Num, e.At}] += e.Net
	}
	return api.OK
}

func (r record) raise(k, at int) api.Errno {
	switch {
	case k < 0 || k >= len(r):
		return api.ErrRange
	case at < 0 || at > forever:
		return api.ErrTime
	case at < r[k].clock:
		return api.ErrLate
	}
	r[k].clock = at
	return api.OK
}

func (r record) clock() int {
	l := []int{}
	for _, in := range r {
		l = append(l, in.clock)
	}
	return slices.Min(l)
}

func (r record) count() int {
	n := 0
	for _, in := range r {
		for _, net := range in.held {
			if net != 0 {
				n++
			}
		}
	}
	return n
}

// release are the lists that are released, each put in order from the least row and instant on.
func (r record) release(rows, ticks int) [][]api.Edge {
	l := make([][]api.Edge, len(r))
	clock := r.clock()
	for k, in := range r {
		for row := range rows {
			for at := range ticks + 1 {
				p := place{row, at}
				if net := in.held[p]; net != 0 && at < clock {
					l[k] = append(l[k], edges(one(row), at, net)...)
					delete(in.held, p)
				}
			}
		}
	}
	return l
}

// P16.1 and P16.2: sequences of all calls, held against the record.
func TestLong(t *testing.T) {
	const ticks = 12
	d := dice(1)
	for range 1500 {
		n := 1 + d.roll(3)
		a, r := of(t, make([]int, n)...), recordOf(n)
		for range 30 {
			k := d.roll(n) + d.roll(30)/29 - d.roll(30)/29
			switch d.roll(6) {
			case 0, 1, 2:
				l := d.edges(ticks)
				if got, want := a.Put(k, l), r.put(k, l); got != want {
					t.Fatalf("put %v into %d: %d, and not %d", l, k, got, want)
				}
			case 3, 4:
				at := d.roll(ticks+2) - 1
				if got, want := a.Raise(k, at), r.raise(k, at); got != want {
					t.Fatalf("raise %d to %d: %d, and not %d", k, at, got, want)
				}
			default:
				release(t, a, r.release(3, ticks)...)
			}
			expect(t, a, r.clock(), r.count())
		}
	}
}

// sum adds edges up.
func sum(t *testing.T, lists ...[]api.Edge) []api.Edge {
	t.Helper()
	l, e := edge.Norm(slices.Concat(lists...)...)
	if e != api.OK {
		t.Fatal(e)
	}
	return l
}

// P16.3: what was put in is what was released, and what is held; each edge that is released is ahead of the clock then, and not ahead of the one at which edges were released last.
func TestWhole(t *testing.T) {
	const ticks = 12
	d := dice(2)
	for range 800 {
		n := 1 + d.roll(3)
		a, in, out := of(t, make([]int, n)...), make([][]api.Edge, n), make([][]api.Edge, n)
		from := 0
		for range 25 {
			k := d.roll(n)
			if l := d.edges(ticks); a.Put(k, l) == api.OK {
				in[k] = sum(t, in[k], l)
			}
			a.Raise(d.roll(n), d.roll(ticks))
			if d.roll(2) > 0 {
				continue
			}
			for k, l := range a.Release() {
				if slices.ContainsFunc(l, func(e api.Edge) bool { return e.At < from || e.At >= a.Clock() }) {
					t.Fatalf("%v is not from %d on, up to %d", l, from, a.Clock())
				}
				out[k] = sum(t, out[k], l)
			}
			from = a.Clock()
		}
		held := 0
		for k := range n {
			in[k] = sum(t, in[k], negation(out[k]))
			held += len(in[k])
		}
		if a.Held() != held {
			t.Fatalf("%d are held, and not %d", a.Held(), held)
		}
		raise(t, a, slices.Repeat([]int{forever}, n)...)
		release(t, a, in...)
	}
}

func negation(l []api.Edge) []api.Edge {
	made, _ := edge.Neg(l)
	return made
}

// deface changes all that edges have, and the room behind them.
func deface(l []api.Edge) {
	l = l[:cap(l)]
	for i := range l {
		for j := range l[i].Row[:cap(l[i].Row)] {
			l[i].Row[:cap(l[i].Row)][j] = number(-77)
		}
		l[i] = api.Edge{Row: one(-77), At: -77}
	}
}

// P3: what is handed in is neither changed nor kept, be it put into an input that holds nothing, or behind other edges.
func TestPutMemory(t *testing.T) {
	for times := range 3 {
		a := of(t, 0)
		row := make(api.Row, 1, 3)
		row[0] = number(1)
		room := append(make([]api.Edge, 0, 4), api.Edge{Row: row, At: 2, Net: 1}, api.Edge{Row: row, At: 7, Net: 1}, api.Edge{Row: one(9), At: 9, Net: 9})
		for range times + 1 {
			put(t, a, 0, room[:2])
			if !edge.Same(room, slices.Concat(edges(one(1), 2, 1, 7, 1), edges(one(9), 9, 9))) || !slices.Equal(row[:3], append(one(1), api.Value{}, api.Value{})) {
				t.Fatalf("what was handed in is changed: %v", room)
			}
			expect(t, a, 0, 2)
		}
		deface(room)
		raise(t, a, 5)
		release(t, a, edges(one(1), 2, times+1))
		raise(t, a, 9)
		release(t, a, edges(one(1), 7, times+1))
	}
}

// P3: what is told is new, and no two lists of it have memory in common.
func TestReleaseMemory(t *testing.T) {
	a := of(t, 0, 0)
	l := edges(one(1), 2, 1, 3, 1, 7, 1, 8, 1)
	put(t, a, 0, l)
	put(t, a, 1, l)
	raise(t, a, 5, 5)
	got := a.Release()
	deface(got[0])
	if !edge.Same(got[1], l[:2]) {
		t.Fatalf("the lists have memory in common: %v", got[1])
	}
	if got[1][0].Row[0] = number(5); !edge.Same(got[1][1:], l[1:2]) {
		t.Fatalf("the edges have memory in common: %v", got[1])
	}
	deface(got[1])
	put(t, a, 0, edges(one(1), 9, 1))
	if got[0][0].Row[0] != number(-77) || got[1][1].Row[0] != number(-77) {
		t.Fatalf("what was told is changed: %v", got)
	}
	raise(t, a, forever, forever)
	release(t, a, slices.Concat(l[2:], edges(one(1), 9, 1)), l[2:])
}

// P6: aligns have nothing in common.
func TestApart(t *testing.T) {
	a, b := of(t, 0, 0), of(t, 0, 0)
	put(t, a, 0, edges(one(1), 2, 1))
	raise(t, a, 5, 5)
	expect(t, b, 0, 0)
	release(t, b, nil, nil)
	put(t, b, 0, edges(one(1), 2, 3))
	release(t, a, edges(one(1), 2, 1), nil)
	expect(t, b, 0, 1)
}
