package hop_test

import (
	"math"
	"slices"
	"strings"
	"testing"

	"rescind/api"
	"rescind/edge"
	"rescind/hop"
	"rescind/pack"
	"rescind/value"
)

const (
	most       = math.MaxInt64
	least      = math.MinInt64
	before     = -1
	forever    = 1 << 50
	last       = forever - 1
	maxSpan    = 1 << 40
	maxNet     = 1 << 20
	maxJumps   = 1 << 10
	maxEdges   = 1 << 12
	maxWindows = 1 << 10
)

// of is a row of numbers.
func of(l ...int) api.Row {
	var r api.Row
	for _, n := range l {
		r = append(r, value.Num(n))
	}
	return r
}

// edges are those of a row, by their places and sizes, in turn.
func edges(r api.Row, l ...int) []api.Edge {
	var made []api.Edge
	for i := 0; i < len(l); i += 2 {
		made = append(made, api.Edge{Row: slices.Clone(r), At: l[i], Net: l[i+1]})
	}
	return made
}

// saw is the edges of a row that is there in turn and not, so many, each so many instants from a place on.
func saw(r api.Row, count, from, gap int) []api.Edge {
	var l []api.Edge
	for i := range count {
		l = append(l, edges(r, from+gap*i, 1-2*(i%2))...)
	}
	return l
}

// many are so many edges, each of another row that stays from a place on.
func many(count, from int) []api.Edge {
	var l []api.Edge
	for i := range count {
		l = append(l, edges(of(i), from, 1)...)
	}
	return l
}

func life(from, to int) api.Span { return api.Span{From: from, To: to} }

// window is a part by its lifetime, its rows, and how often each is there.
func window(from, to int, rows ...api.Copy) api.Part {
	return api.Part{Span: life(from, to), Rows: rows}
}

func times(n int, r api.Row) api.Copy { return api.Copy{Row: r, N: n} }

// same holds parts against each other, without the program's help.
func same(a, b []api.Part) bool {
	return slices.EqualFunc(a, b, func(x, y api.Part) bool {
		return x.Span == y.Span && slices.EqualFunc(x.Rows, y.Rows, func(c, d api.Copy) bool {
			return c.N == d.N && slices.Equal(c.Row, d.Row)
		})
	})
}

// grid is the arguments that say which windows there are.
type grid struct{ size, hop, from, front int }

func (g grid) open(t *testing.T, at, want int, wanted api.Errno) {
	t.Helper()
	if got, e := hop.Open(g.size, g.hop, at); got != want || e != wanted {
		t.Fatalf("open %v at %d: %d, error %d, and not %d, error %d", g, at, got, e, want, wanted)
	}
}

func (g grid) starts(t *testing.T, s api.Span, want []int, wanted api.Errno) {
	t.Helper()
	if got, e := hop.Starts(g.size, g.hop, s, g.from, g.front); !slices.Equal(got, want) || e != wanted {
		t.Fatalf("starts %v for %v: %v, error %d, and not %v, error %d", g, s, got[:min(len(got), 20)], e, want[:min(len(want), 20)], wanted)
	}
}

func (g grid) parts(t *testing.T, l []api.Edge, want []api.Part, wanted api.Errno) {
	t.Helper()
	if got, e := hop.Parts(l, g.size, g.hop, g.from, g.front); !same(got, want) || e != wanted {
		t.Fatalf("parts %v: %v, error %d, and not %v, error %d", g, got[:min(len(got), 20)], e, want[:min(len(want), 20)], wanted)
	}
}

// bad are numbers that are neither a size nor a hop, and never are ticks that are none.
func bad() []int { return []int{0, -1, least, maxSpan + 1, most} }

func never() []int { return []int{before, -2, least, forever + 1, most} }

// P28.1, P28.2, P28.3: the document's examples.
func TestExamples(t *testing.T) {
	grid{size: 10, hop: 5}.open(t, 12, 5, api.OK)
	grid{size: 2, hop: 10}.open(t, 7, 10, api.OK)
	grid{10, 5, 0, 100}.starts(t, life(3, 7), []int{0, 5}, api.OK)
	grid{10, maxSpan + 1, 0, 100}.parts(t, edges(of(1), 3, 1), nil, api.ErrArg)
	l := slices.Concat(edges(of(1), 3, 1, 7, -1), edges(of(2), 7, 1, 8, -1))
	grid{10, 5, 0, 100}.parts(t, l, []api.Part{window(0, 10, times(1, of(1)), times(1, of(2))), window(5, 15, times(1, of(1)), times(1, of(2)))}, api.OK)
}

// P28.1: windows about each other, side by side, and with gaps between; the ends of time, and of what a size may be.
func TestOpen(t *testing.T) {
	tests := []struct{ size, hop, at, want int }{
		{10, 5, 0, 0}, {10, 5, 4, 0}, {10, 5, 9, 0}, {10, 5, 10, 5}, {10, 5, 14, 5}, {10, 5, 15, 10}, {10, 5, 19, 10}, {10, 5, 20, 15},
		{5, 5, 0, 0}, {5, 5, 4, 0}, {5, 5, 5, 5}, {5, 5, 9, 5}, {5, 5, 10, 10},
		{2, 10, 0, 0}, {2, 10, 1, 0}, {2, 10, 2, 10}, {2, 10, 10, 10}, {2, 10, 11, 10}, {2, 10, 12, 20},
		{1, 1, 0, 0}, {1, 1, 7, 7}, {1, 1, last, last}, {1, 1, forever, forever},
		{7, 3, 6, 0}, {7, 3, 7, 3}, {7, 3, 9, 3}, {7, 3, 10, 6},
		{2, 1, last, last - 1}, {2, 1, forever, forever},
		{10, 5, forever, forever}, {maxSpan, maxSpan, forever, forever}, {maxSpan, 1, forever, forever}, {1, maxSpan, forever, forever},
		{maxSpan, 1, maxSpan - 1, 0}, {maxSpan, 1, maxSpan, 1}, {maxSpan, 1, last, forever - maxSpan},
		{maxSpan, maxSpan, maxSpan - 1, 0}, {maxSpan, maxSpan, maxSpan, maxSpan}, {maxSpan, maxSpan, last, forever - maxSpan},
		{1, maxSpan, 0, 0}, {1, maxSpan, 1, maxSpan}, {1, maxSpan, forever - maxSpan, forever - maxSpan}, {1, maxSpan, forever - maxSpan + 1, forever}, {1, maxSpan, last, forever},
		{10, maxSpan, last, forever}, {1, maxSpan - 1, forever - 1024, forever - 1024}, {1, maxSpan - 1, forever - 1023, forever}, {2, maxSpan - 1, forever - 1023, forever - 1024},
	}
	for _, x := range tests {
		grid{size: x.size, hop: x.hop}.open(t, x.at, x.want, api.OK)
	}
	for size := 1; size < 14; size++ {
		for step := 1; step < 14; step++ {
			for at := range 40 {
				want := 0
				for want+size <= at {
					want += step
				}
				grid{size: size, hop: step}.open(t, at, want, api.OK)
			}
		}
	}
}

// P28.1, P28.2, P28.3: which error is told where several things are wrong.
func TestErrors(t *testing.T) {
	good := []grid{{1, 1, 0, 0}, {10, 5, 0, forever}, {maxSpan, maxSpan, forever, 7}, {1, maxSpan, last, last}}
	var lengths, ticks []grid
	for _, g := range good {
		for _, n := range bad() {
			lengths = append(lengths, grid{n, g.hop, g.from, g.front}, grid{g.size, n, g.from, g.front}, grid{n, n, never()[0], g.front})
		}
		for _, n := range never() {
			ticks = append(ticks, grid{g.size, g.hop, n, g.front}, grid{g.size, g.hop, g.from, n}, grid{g.size, g.hop, n, n})
		}
	}
	spans := []api.Span{{}, life(3, 3), life(4, 3), life(-2, 3), life(least, most), life(most, least), life(0, forever+1), life(5, most), life(before, before), life(forever, forever), life(forever, forever+1), life(0, least), life(least, 0), life(before, -7)}
	table := edges(of(1), 3, 1, 7, -1)
	below := [][]api.Edge{edges(of(1), 3, -1), edges(of(1), before, -1, 0, 1), edges(of(1), 2, 1, 4, -2), slices.Concat(table, edges(of(2), 3, -1)), saw(of(1), 4, 0, 2)[1:]}
	for _, g := range lengths {
		for _, at := range append(never(), 0, 7, forever) {
			g.open(t, at, 0, api.ErrArg)
		}
		for _, s := range append(spans, life(3, 7)) {
			g.starts(t, s, nil, api.ErrArg)
		}
		for _, l := range append(append(none(), below...), nil, table) {
			g.parts(t, l, nil, api.ErrArg)
		}
	}
	for _, g := range append(good, ticks...) {
		for _, l := range none() {
			g.parts(t, l, nil, api.ErrArg)
		}
		for _, l := range below {
			g.parts(t, l, nil, api.ErrBelow)
		}
		for _, at := range never() {
			g.open(t, at, 0, api.ErrTime)
		}
	}
	for _, g := range ticks {
		for _, s := range append(spans, life(3, 7), life(0, forever)) {
			g.starts(t, s, nil, api.ErrTime)
		}
		for _, l := range [][]api.Edge{nil, table, many(maxEdges, 0)} {
			g.parts(t, l, nil, api.ErrTime)
		}
	}
	for _, g := range good {
		for _, s := range spans {
			g.starts(t, s, nil, api.ErrSpan)
		}
	}
}

// none are lists of edges that are not in form.
func none() [][]api.Edge {
	return [][]api.Edge{
		make([]api.Edge, 1),
		{{}, {}},
		edges(of(1), 6, 0),
		edges(of(1), 6, maxNet+1),
		edges(of(1), 6, least),
		edges(of(1), -2, 1),
		edges(of(1), most, 1),
		edges(of(1), forever, 1),
		edges(of(1), 8, 1, 6, 1),
		edges(of(1), 6, 1, 6, 1),
		edges(of(1, 2, 3, 4, 5, 6, 7, 8, 9), 6, 1),
		edges(api.Row{{}}, 6, 1),
		edges(api.Row{{Kind: api.Text, Text: strings.Repeat("a", 65)}}, 6, 1),
		slices.Concat(edges(of(2), 6, 1), edges(of(1), 6, 1)),
		slices.Concat(edges(of(1), 6, -1), edges(of(2), 6, 0)),
		saw(of(1), maxJumps+1, 0, 1),
		many(maxEdges+1, 0),
	}
}

// P28.2: which windows share a tick with a lifetime, and which of them are asked for.
func TestStarts(t *testing.T) {
	tests := []struct {
		g    grid
		s    api.Span
		want []int
	}{
		{grid{10, 5, 0, 100}, life(0, 1), []int{0}},
		{grid{10, 5, 0, 100}, life(4, 5), []int{0}},
		{grid{10, 5, 0, 100}, life(4, 6), []int{0, 5}},
		{grid{10, 5, 0, 100}, life(9, 10), []int{0, 5}},
		{grid{10, 5, 0, 100}, life(10, 11), []int{5, 10}},
		{grid{10, 5, 0, 100}, life(14, 21), []int{5, 10, 15, 20}},
		{grid{10, 5, 10, 20}, life(14, 21), []int{10, 15}},
		{grid{10, 5, 11, 21}, life(14, 21), []int{15, 20}},
		{grid{10, 5, 6, 10}, life(14, 21), nil},
		{grid{10, 5, 5, 10}, life(14, 21), []int{5}},
		{grid{10, 5, 10, 10}, life(14, 21), nil},
		{grid{10, 5, 20, 10}, life(14, 21), nil},
		{grid{10, 5, 30, forever}, life(14, 21), nil},
		{grid{10, 5, forever, forever}, life(14, forever), nil},
		{grid{10, 5, 0, 0}, life(0, forever), nil},
		{grid{10, 5, 0, 1}, life(0, forever), []int{0}},
		{grid{10, 5, 0, 100}, life(before, 0), nil},
		{grid{10, 5, 0, 100}, life(before, 1), []int{0}},
		{grid{10, 5, 0, 100}, life(before, 5), []int{0}},
		{grid{10, 5, 0, 100}, life(before, 6), []int{0, 5}},
		{grid{10, 5, 0, 11}, life(before, forever), []int{0, 5, 10}},
		{grid{2, 10, 0, 100}, life(2, 10), nil},
		{grid{2, 10, 0, 100}, life(1, 10), []int{0}},
		{grid{2, 10, 0, 100}, life(2, 11), []int{10}},
		{grid{2, 10, 0, 100}, life(11, 12), []int{10}},
		{grid{2, 10, 0, 100}, life(1, 21), []int{0, 10, 20}},
		{grid{1, 1, 0, forever}, life(last, forever), []int{last}},
		{grid{2, 1, 0, forever}, life(last, forever), []int{last - 1, last}},
		{grid{10, 1, last - 1, forever}, life(0, forever), []int{last - 1, last}},
		{grid{10, 1, last - 1, last}, life(0, forever), []int{last - 1}},
		{grid{maxSpan, maxSpan, 0, forever}, life(last, forever), []int{forever - maxSpan}},
		{grid{maxSpan, maxSpan, forever - maxSpan + 1, forever}, life(last, forever), nil},
		{grid{1, maxSpan, 0, forever}, life(forever-maxSpan, forever), []int{forever - maxSpan}},
		{grid{1, maxSpan, 0, forever}, life(forever-maxSpan+1, forever), nil},
		{grid{maxSpan, maxSpan / 2, 0, forever}, life(maxSpan, maxSpan+1), []int{maxSpan / 2, maxSpan}},
		{grid{2, maxSpan - 1, 0, forever}, life(forever-1023, forever), []int{forever - 1024}},
	}
	for _, x := range tests {
		x.g.starts(t, x.s, x.want, api.OK)
	}
}

// P28.2, P28.3: as many windows as there may be, and one more.
func TestFull(t *testing.T) {
	tests := []struct {
		g    grid
		s    api.Span
		want int
		e    api.Errno
	}{
		{grid{1, 1, 0, forever}, life(0, maxWindows), maxWindows, api.OK},
		{grid{1, 1, 0, forever}, life(0, maxWindows+1), 0, api.ErrFull},
		{grid{1, 1, 1, forever}, life(0, maxWindows+1), maxWindows, api.OK},
		{grid{1, 1, 0, maxWindows}, life(0, maxWindows+1), maxWindows, api.OK},
		{grid{1, 1, 0, forever}, life(before, maxWindows), maxWindows, api.OK},
		{grid{1, 1, 0, forever}, life(before, forever), 0, api.ErrFull},
		{grid{10, 5, 0, 5 * maxWindows}, life(0, forever), maxWindows, api.OK},
		{grid{10, 5, 0, 5*maxWindows + 1}, life(0, forever), 0, api.ErrFull},
		{grid{maxWindows, 1, 0, forever}, life(2000, 2001), maxWindows, api.OK},
		{grid{maxWindows + 1, 1, 0, forever}, life(2000, 2001), 0, api.ErrFull},
		{grid{maxWindows + 1, 1, 2000 - maxWindows + 1, forever}, life(2000, 2001), maxWindows, api.OK},
		{grid{1, maxSpan, 0, forever}, life(0, forever), maxWindows, api.OK},
		{grid{maxSpan, maxSpan, 0, forever}, life(before, forever), maxWindows, api.OK},
		{grid{1, maxSpan - 1, 0, forever}, life(0, forever), 0, api.ErrFull},
		{grid{maxSpan, 1, 0, forever}, life(last, forever), 0, api.ErrFull},
	}
	for _, x := range tests {
		got, e := hop.Starts(x.g.size, x.g.hop, x.s, x.g.from, x.g.front)
		if len(got) != x.want || e != x.e {
			t.Error(x.g, x.s, len(got), e)
		}
		var l []api.Edge
		if x.s.To == forever {
			l = edges(of(1), x.s.From, 1)
		} else {
			l = edges(of(1), x.s.From, 1, x.s.To, -1)
		}
		parts, e := hop.Parts(l, x.g.size, x.g.hop, x.g.from, x.g.front)
		if len(parts) != x.want || e != x.e {
			t.Error(x.g, x.s, len(parts), e)
		}
	}
}

// P28.3: windows count once, whatever many rows belong to them, and those of all rows count together.
func TestFullOfRows(t *testing.T) {
	tests := []struct {
		l          []api.Edge
		g          grid
		want, rows int
		e          api.Errno
	}{
		{many(maxEdges, 3), grid{10, 10, 0, 1}, 1, maxEdges, api.OK},
		{many(maxEdges, 3), grid{10, 10, 0, 20}, 2, 2 * maxEdges, api.OK},
		{many(50, 3), grid{10, 10, 0, 10 * maxWindows}, maxWindows, 50 * maxWindows, api.OK},
		{many(maxEdges, 3), grid{10, 10, 0, 10*maxWindows + 1}, 0, 0, api.ErrFull},
		{saw(of(1), maxJumps, 0, 1), grid{1, 1, 0, forever}, maxJumps / 2, maxJumps / 2, api.OK},
		{saw(of(1), maxJumps, 0, 1), grid{2, 1, 0, forever}, maxJumps - 1, maxJumps - 1, api.OK},
		{slices.Concat(saw(of(1), maxJumps, 0, 1), saw(of(2), maxJumps, 1, 1)), grid{1, 1, 0, forever}, maxJumps, maxJumps, api.OK},
		{slices.Concat(saw(of(1), maxJumps, 0, 1), saw(of(2), maxJumps, 1, 1), edges(of(3), maxJumps, 1, maxJumps+1, -1)), grid{1, 1, 0, forever}, 0, 0, api.ErrFull},
		{slices.Concat(saw(of(1), maxJumps, 0, 1), saw(of(2), maxJumps, 1, 1), edges(of(3), maxJumps, 1, maxJumps+1, -1)), grid{1, 1, 0, maxJumps}, maxJumps, maxJumps, api.OK},
		{slices.Concat(saw(of(1), maxJumps, 0, 1), saw(of(2), maxJumps, 1, 1), edges(of(3), maxJumps-1, 1, maxJumps, -1)), grid{1, 1, 0, forever}, maxJumps, maxJumps + 1, api.OK},
		{saw(of(1), maxJumps, 0, 1), grid{maxSpan, 1, 0, maxWindows}, maxWindows - 1, maxWindows - 1, api.OK},
		{saw(of(1), maxJumps, 0, maxSpan), grid{maxSpan, maxSpan, 0, forever}, maxJumps / 2, maxJumps / 2, api.OK},
		{nil, grid{1, 1, 0, forever}, 0, 0, api.OK},
		{[]api.Edge{}, grid{maxSpan, 1, 0, forever}, 0, 0, api.OK},
		{many(maxEdges, 3), grid{1, 1, 0, 3}, 0, 0, api.OK},
		{many(maxEdges, 3), grid{1, 1, 7, 7}, 0, 0, api.OK},
		{many(maxEdges, 3), grid{1, 1, forever, forever}, 0, 0, api.OK},
	}
	for i, x := range tests {
		parts, e := hop.Parts(x.l, x.g.size, x.g.hop, x.g.from, x.g.front)
		rows := 0
		for _, p := range parts {
			rows += len(p.Rows)
		}
		if len(parts) != x.want || rows != x.rows || e != x.e {
			t.Error(i, len(parts), rows, e)
		}
	}
}

// P28.3: how often a row belongs to a window, in the order of the rows and of the windows.
func TestParts(t *testing.T) {
	none, one, two := of(), of(1), of(2)
	tests := []struct {
		l    []api.Edge
		g    grid
		want []api.Part
	}{
		{edges(one, 3, 1, 4, 1, 7, -2), grid{4, 2, 0, 100}, []api.Part{window(0, 4, times(1, one)), window(2, 6, times(2, one)), window(4, 8, times(2, one)), window(6, 10, times(2, one))}},
		{edges(one, 3, 1, 7, -1), grid{2, 5, 0, 100}, []api.Part{window(5, 7, times(1, one))}},
		{edges(one, 2, 1, 5, -1), grid{2, 5, 0, 100}, nil},
		{edges(one, 2, 1, 5, -1), grid{3, 5, 0, 100}, []api.Part{window(0, 3, times(1, one))}},
		{edges(one, 2, 1, 3, -1, 4, 1, 5, -1), grid{10, 10, 0, 100}, []api.Part{window(0, 10, times(2, one))}},
		{edges(one, 0, 1, 3, -1, 4, 1, 5, -1), grid{10, 10, 0, 100}, []api.Part{window(0, 10, times(2, one))}},
		{edges(one, 0, 2, 3, -1, 4, 3, 5, -1), grid{5, 5, 0, 10}, []api.Part{window(0, 5, times(5, one)), window(5, 10, times(3, one))}},
		{edges(one, 1, 1, 2, 1, 3, 1, 4, 1, 5, 1), grid{4, 4, 0, 8}, []api.Part{window(0, 4, times(3, one)), window(4, 8, times(5, one))}},
		{edges(one, before, 1, 0, -1), grid{5, 5, 0, 100}, nil},
		{edges(one, before, 2, 0, -1, 3, -1), grid{5, 5, 0, 100}, []api.Part{window(0, 5, times(1, one))}},
		{edges(one, before, 1, 0, 1, 3, -1), grid{5, 5, 0, 6}, []api.Part{window(0, 5, times(2, one)), window(5, 10, times(1, one))}},
		{edges(one, before, 1), grid{5, 5, 10, 11}, []api.Part{window(10, 15, times(1, one))}},
		{edges(one, before, 1), grid{5, 5, last - 5, forever}, []api.Part{window(forever-4, forever, times(1, one))}},
		{edges(one, last, 1), grid{10, 8, 0, forever}, []api.Part{window(forever-8, forever, times(1, one))}},
		{edges(one, last, 1), grid{10, 4, 0, forever}, []api.Part{window(forever-8, forever, times(1, one)), window(forever-4, forever, times(1, one))}},
		{edges(one, 0, maxNet, 1, maxNet, 2, -maxNet), grid{maxSpan, maxSpan, 0, maxSpan + 1}, []api.Part{window(0, maxSpan, times(2*maxNet, one)), window(maxSpan, 2*maxSpan, times(maxNet, one))}},
		{slices.Concat(edges(none, 2, 1), edges(one, 9, 1, 11, -1), edges(of(1, 0), 3, 2, 4, -2, 12, 1), edges(two, 1, 4, 2, -4)), grid{5, 5, 0, 15}, []api.Part{window(0, 5, times(1, none), times(2, of(1, 0)), times(4, two)), window(5, 10, times(1, none), times(1, one)), window(10, 15, times(1, none), times(1, one), times(1, of(1, 0)))}},
		{slices.Concat(edges(one, 20, 1, 21, -1), edges(two, 0, 1, 1, -1)), grid{5, 5, 0, 100}, []api.Part{window(0, 5, times(1, two)), window(20, 25, times(1, one))}},
		{slices.Concat(edges(one, 20, 1, 21, -1), edges(two, 0, 1, 1, -1)), grid{5, 5, 1, 20}, nil},
	}
	for _, x := range tests {
		x.g.parts(t, x.l, x.want, api.OK)
	}
}

// dice are numbers without a pattern, the same each time.
type dice uint64

func (d *dice) roll(n int) int {
	*d = *d*6364136223846793005 + 1442695040888963407
	return int(uint64(*d)>>33) % n
}

// table is of a few rows at a few instants, from a place on.
func (d *dice) table(base, width int) []api.Edge {
	var l []api.Edge
	for range d.roll(9) {
		r, from, net := of(d.roll(3), d.roll(2))[:d.roll(3)], base+d.roll(width), 1+d.roll(3)
		l = append(l, edges(r, from, net)...)
		if d.roll(4) > 0 {
			l = append(l, edges(r, min(from+1+d.roll(width), forever), -net)...)
		}
	}
	made, e := edge.Norm(l...)
	if e != api.OK || !edge.Table(made) {
		panic(e)
	}
	return made
}

// share tells whether a window, which ends at the end of all ticks at the latest, has a tick of a lifetime in it.
func (g grid) share(start int, s api.Span) bool {
	for at := start; at < min(start+g.size, forever); at++ {
		if s.From <= at && at < s.To {
			return true
		}
	}
	return false
}

// begins are where the windows begin that are asked for, not ahead of a tick.
func (g grid) begins(low int) []int {
	var l []int
	for at := max(low, g.from); at < min(g.front, forever); at++ {
		if at%g.hop == 0 {
			l = append(l, at)
		}
	}
	return l
}

// P28.2: windows and lifetimes held against the meaning, at the first ticks and at the last ones.
func TestStartsMeaning(t *testing.T) {
	d := dice(282)
	for range 20000 {
		g := grid{1 + d.roll(9), 1 + d.roll(9), d.roll(20), d.roll(40)}
		from := d.roll(20) - 1
		s, low := life(from, from+1+d.roll(12)), 0
		if d.roll(2) == 0 {
			g.from, g.front = last-d.roll(20), forever-d.roll(5)
			from = last - d.roll(20)
			s, low = life(from, min(from+1+d.roll(12), forever)), last-60
		}
		var want []int
		for _, at := range g.begins(low) {
			if g.share(at, s) {
				want = append(want, at)
			}
		}
		g.starts(t, s, want, api.OK)
	}
}

// meant is the windows to which a row belongs, found by the pieces that share a tick with each.
func (g grid) meant(t *testing.T, l []api.Edge, low int) []api.Part {
	t.Helper()
	pieces, e := pack.Pieces(l)
	if e != api.OK {
		t.Fatal(e)
	}
	var parts []api.Part
	for _, at := range g.begins(low) {
		p := window(at, min(at+g.size, forever))
		for _, x := range pieces {
			if !g.share(at, x.Span) {
				continue
			}
			if end := len(p.Rows) - 1; end >= 0 && slices.Equal(p.Rows[end].Row, x.Row) {
				p.Rows[end].N++
			} else {
				p.Rows = append(p.Rows, times(1, x.Row))
			}
		}
		if len(p.Rows) > 0 {
			parts = append(parts, p)
		}
	}
	return parts
}

// P28.3: tables held against the meaning, at the first ticks and at the last ones.
func TestPartsMeaning(t *testing.T) {
	d := dice(283)
	for range 10000 {
		g := grid{1 + d.roll(9), 1 + d.roll(9), d.roll(20), d.roll(40)}
		l := d.table(before, 14)
		g.parts(t, l, g.meant(t, l, 0), api.OK)
		g.from, g.front = last-d.roll(30), forever-d.roll(5)
		l = d.table(last-14, 15)
		g.parts(t, l, g.meant(t, l, last-60), api.OK)
	}
}

// P28.4: unless there are gaps between windows, the first one that is not closed has the tick in it.
func TestOpenHolds(t *testing.T) {
	d := dice(284)
	for i := range 20000 {
		size, at := 1+d.roll(1+i%50), d.roll(200)
		if i%2 == 0 {
			size, at = maxSpan-d.roll(1<<30), last-d.roll(1<<30)
		}
		got, e := hop.Open(size, 1+d.roll(size), at)
		if e != api.OK || got > at || got <= at-size {
			t.Fatal(size, at, got, e)
		}
	}
}

// P28.5: what changes at a tick or later leaves the windows that are closed there as they are, and those are the ones ahead of what Open tells.
func TestClosedStay(t *testing.T) {
	d := dice(285)
	for range 10000 {
		g := grid{1 + d.roll(9), 1 + d.roll(9), 0, 60}
		l, at := d.table(before, 14), d.roll(25)
		ahead, e := edge.Ahead(l, at)
		if e != api.OK {
			t.Fatal(e)
		}
		other, e := edge.Add(ahead, d.table(at, 14))
		if e != api.OK || !edge.Table(other) {
			t.Fatal(e)
		}
		open, e := hop.Open(g.size, g.hop, at)
		if e != api.OK {
			t.Fatal(e)
		}
		for _, start := range g.begins(0) {
			if isClosed := start+g.size <= at; isClosed != (start < open) {
				t.Fatal(g, at, start, open)
			}
		}
		g.front = open
		want := g.meant(t, l, 0)
		g.parts(t, l, want, api.OK)
		g.parts(t, other, want, api.OK)
	}
}

// P3: arguments are left as they are, and nothing that is told shares memory with them, or with anything else that is.
func TestOwnMemory(t *testing.T) {
	a, b := of(1, 2), of(3, 4)
	earlier := slices.Concat(edges(a, 2, 1, 9, -1), edges(b, 5, 1, 7, -1))
	spare := append(make([]api.Edge, 0, 9), slices.Concat(edges(a, 2, 1, 9, -1), edges(b, 5, 1, 7, -1))...)
	parts, _ := hop.Parts(spare, 4, 3, 0, 20)
	other, _ := hop.Parts(spare, 4, 3, 0, 20)
	wanted := []api.Part{window(0, 4, times(1, a)), window(3, 7, times(1, a), times(1, b)), window(6, 10, times(1, a), times(1, b))}
	for i := range parts {
		for k, c := range parts[i].Rows {
			_ = append(c.Row, value.Num(7))
			c.Row[0], c.Row[1] = value.Num(100*i+k), value.Num(8)
			parts[i].Rows[k].N = 50
		}
		_ = append(parts[i].Rows, api.Copy{N: 9})
	}
	if !same(other, wanted) {
		t.Fatal("shared with another answer", other)
	}
	for i := range parts {
		for k, c := range parts[i].Rows {
			if c.Row[0].Num != 100*i+k {
				t.Fatal("shared within the answer", parts)
			}
		}
	}
	for i, e := range spare[:cap(spare)] {
		if i < len(earlier) && (!slices.Equal(e.Row, earlier[i].Row) || e.At != earlier[i].At || e.Net != earlier[i].Net) || i >= len(earlier) && (e.Row != nil || e.At != 0 || e.Net != 0) {
			t.Fatal("the argument changed", i, e)
		}
	}
	for i := range spare {
		spare[i].Row[0], spare[i].At = value.Num(55), 1
	}
	if !same(other, wanted) {
		t.Fatal("shared with the argument", other)
	}
}
