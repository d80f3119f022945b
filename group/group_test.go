package group_test

import (
	"math"
	"slices"
	"strconv"
	"strings"
	"testing"

	"rescind/api"
	"rescind/edge"
	"rescind/group"
	"rescind/row"
	"rescind/schema"
	"rescind/tally"
	"rescind/value"
	"rescind/window"
)

const (
	most       = math.MaxInt64
	least      = math.MinInt64
	before     = -1
	forever    = 1 << 50
	last       = forever - 1
	maxSpan    = 1 << 40
	maxNet     = 1 << 20
	maxJumps   = 1 << 10
	maxEdges   = 1 << 12
	maxWindows = 1 << 10
	maxCount   = 64
	maxCols    = 8
	maxAggs    = 8
)

// of is a row of numbers.
func of(l ...int) api.Row {
	var r api.Row
	for _, n := range l {
		r = append(r, value.Num(n))
	}
	return r
}

func text(s string) api.Value { return api.Value{Kind: api.Text, Text: s} }

// edges are those of a row, by their places and sizes, in turn.
func edges(r api.Row, l ...int) []api.Edge {
	var made []api.Edge
	for i := 0; i < len(l); i += 2 {
		made = append(made, api.Edge{Row: slices.Clone(r), At: l[i], Net: l[i+1]})
	}
	return made
}

// saw is the edges of a row that is there in turn and not, so many, one at each instant from a place on.
func saw(r api.Row, count, from int) []api.Edge {
	var l []api.Edge
	for i := range count {
		l = append(l, edges(r, from+i, 1-2*(i%2))...)
	}
	return l
}

// stairs are so many edges, each of another row of two numbers that stays, at one place after the other. The first number is that of its group.
func stairs(count, from, group int) []api.Edge {
	var l []api.Edge
	for i := range count {
		l = append(l, edges(of(group, i), from+i, 1)...)
	}
	return l
}

// wide are so many edges at one instant, each of another row and another group.
func wide(count, at int) []api.Edge {
	var l []api.Edge
	for i := range count {
		l = append(l, edges(of(i, 5), at, 1)...)
	}
	return l
}

func snapshot() api.Window { return api.Window{Kind: api.Snapshot} }

func hopping(size, every int) api.Window {
	return api.Window{Kind: api.Hopping, Size: size, Hop: every}
}

func counting(size int) api.Window { return api.Window{Kind: api.Counting, Size: size} }

// noWindows are definitions that are not valid.
func noWindows() []api.Window {
	return []api.Window{{}, {Kind: 4}, {Kind: api.Snapshot, Size: 1}, {Kind: api.Snapshot, Hop: 1}, hopping(0, 1), hopping(1, 0), hopping(maxSpan+1, 1), hopping(1, maxSpan+1), counting(0), counting(maxCount + 1), {Kind: api.Counting, Size: 1, Hop: 1}}
}

func windows() []api.Window {
	return []api.Window{snapshot(), hopping(10, 5), hopping(2, 3), counting(1), counting(3)}
}

// numbers is the schema of so many columns of numbers: a, b, c and so on.
func numbers(count int) api.Schema {
	var s api.Schema
	for i := range count {
		s = append(s, api.Col{Name: string(rune('a' + i)), Kind: api.Number})
	}
	return s
}

// mixed is a schema of a number, a text and a number.
func mixed() api.Schema {
	return api.Schema{{Name: "a", Kind: api.Number}, {Name: "b", Kind: api.Text}, {Name: "c", Kind: api.Number}}
}

func agg(k api.AggKind, col int, name string) api.Agg { return api.Agg{Kind: k, Col: col, Name: name} }

// counted is so many counts, named n0, n1 and so on.
func counted(count int) []api.Agg {
	var l []api.Agg
	for i := range count {
		l = append(l, agg(api.Count, 0, "n"+strconv.Itoa(i)))
	}
	return l
}

func sum() []api.Agg { return []api.Agg{agg(api.Sum, 1, "s")} }

// same holds edges against each other, without the program's help.
func same(a, b []api.Edge) bool {
	return slices.EqualFunc(a, b, func(x, y api.Edge) bool {
		return slices.Equal(x.Row, y.Row) && x.At == y.At && x.Net == y.Net
	})
}

// expect holds an answer against another one.
func expect(t *testing.T, got []api.Edge, e api.Errno, want []api.Edge, wanted api.Errno) {
	t.Helper()
	if !same(got, want) || e != wanted {
		t.Fatalf("%d, error %d, and not %d, error %d: %v, %v", len(got), e, len(want), wanted, got[:min(len(got), 9)], want[:min(len(want), 9)])
	}
}

// never are ticks that are none.
func never() []int { return []int{before, -2, least, forever + 1, most} }

// none are lists of edges that are not in form, of rows of two numbers where they are rows at all.
func none() [][]api.Edge {
	r := of(1, 2)
	return [][]api.Edge{
		make([]api.Edge, 1),
		edges(r, 6, 0),
		edges(r, 6, maxNet+1),
		edges(r, 6, least),
		edges(r, -2, 1),
		edges(r, forever, 1),
		edges(r, most, 1),
		edges(r, 8, 1, 6, 1),
		edges(r, 6, 1, 6, 1),
		edges(of(1, 2, 3, 4, 5, 6, 7, 8, 9), 6, 1),
		edges(api.Row{{}}, 6, 1),
		edges(api.Row{value.Num(1), text(strings.Repeat("a", 65))}, 6, 1),
		slices.Concat(edges(of(2, 0), 6, 1), edges(r, 6, 1)),
		slices.Concat(edges(r, 6, -1), edges(of(2, 0), 6, 0)),
		saw(r, maxJumps+1, 0),
		stairs(maxEdges+1, 0, 1),
	}
}

// below are edges in form of which a row is there fewer times than none.
func below() [][]api.Edge {
	r := of(1, 2)
	return [][]api.Edge{edges(r, 3, -1), edges(r, before, -1, 0, 1), edges(r, 2, 1, 4, -2), edges(of(1), 3, -1), slices.Concat(edges(r, 2, 1), edges(of(2, 0), 3, -1))}
}

// foreign are tables of which a row does not fit a schema of two numbers.
func foreign() [][]api.Edge {
	return [][]api.Edge{edges(nil, 2, 1), edges(of(1), 2, 1), edges(of(1, 2, 3), 2, 1), edges(api.Row{value.Num(1), text("")}, 2, 1), slices.Concat(edges(of(1, 2), 2, 1), edges(of(1, 2, 3), before, 1)), slices.Concat(edges(of(1, 2), 2, 1), edges(api.Row{text("a"), text("b")}, 2, 1, 3, -1))}
}

// P34.1, P34.2, P34.3: the document's examples.
func TestExamples(t *testing.T) {
	if c, e := group.Schema(numbers(2), nil, []api.Agg{agg(api.Start, 0, "at")}, snapshot()); e != api.ErrArg || c != nil {
		t.Fatal(c, e)
	}
	l := slices.Concat(edges(of(1, 5), 2, 1, 9, -1), edges(of(1, 7), 5, 1, 7, -1))
	if at, e := group.Clock(l, numbers(2), []int{0}, hopping(10, 5), 12); e != api.OK || at != 5 {
		t.Fatal(at, e)
	}
	got, e := group.Rows(l, numbers(2), []int{0}, sum(), snapshot(), 0, 0)
	expect(t, got, e, slices.Concat(edges(of(1, 5), 2, 1, 5, -1, 7, 1, 9, -1), edges(of(1, 12), 5, 1, 7, -1)), api.OK)
}

// P34.1: the columns that are grouped by, in their order, and those of the aggregates.
func TestSchema(t *testing.T) {
	all := []api.Agg{agg(api.Count, 0, "n"), agg(api.Sum, 2, "s"), agg(api.Min, 1, "lo"), agg(api.Max, 2, "hi"), agg(api.East, 0, "e"), agg(api.North, 0, "f"), agg(api.Start, 0, "at")}
	tests := []struct {
		cols []int
		aggs []api.Agg
		w    api.Window
		want string
	}{
		{[]int{0}, nil, snapshot(), "a number"},
		{[]int{2, 1, 0}, nil, hopping(1, 1), "c number, b text, a number"},
		{nil, counted(1), counting(1), "n0 number"},
		{[]int{}, counted(maxAggs), snapshot(), "n0 number, n1 number, n2 number, n3 number, n4 number, n5 number, n6 number, n7 number"},
		{[]int{1}, counted(maxAggs - 1), snapshot(), "b text, n0 number, n1 number, n2 number, n3 number, n4 number, n5 number, n6 number"},
		{[]int{1}, all, hopping(10, 5), "b text, n number, s number, lo text, hi number, e number, f number, at number"},
		{[]int{1}, all, counting(2), "b text, n number, s number, lo text, hi number, e number, f number, at number"},
		{[]int{2, 0}, all[:6], snapshot(), "c number, a number, n number, s number, lo text, hi number, e number, f number"},
		{[]int{1}, []api.Agg{agg(api.Count, 0, "a")}, snapshot(), "b text, a number"}, // a is no column that is grouped by
		{nil, []api.Agg{agg(api.Max, 1, "b"), agg(api.Sum, 2, "a")}, snapshot(), "b text, a number"},
	}
	for i, x := range tests {
		c, e := group.Schema(mixed(), x.cols, x.aggs, x.w)
		if e != api.OK || schema.Show(c) != x.want {
			t.Error(i, schema.Show(c), e)
		}
	}
}

// grouping is one that is not valid, and the first thing that is wrong with it.
type grouping struct {
	s    api.Schema
	cols []int
	aggs []api.Agg
	w    api.Window
	e    api.Errno
}

// invalid are groupings that are not valid.
func invalid() []grouping {
	start, two := []api.Agg{agg(api.Start, 0, "at")}, []api.Agg{agg(api.Count, 0, "n"), agg(api.Count, 0, "n")}
	return []grouping{
		{nil, make([]int, 9), counted(9), api.Window{}, api.ErrSchema},
		{api.Schema{{}}, nil, nil, snapshot(), api.ErrSchema},
		{slices.Repeat(mixed(), 2), []int{9}, counted(1), snapshot(), api.ErrSchema},
		{mixed(), make([]int, maxCols+1), counted(9), api.Window{}, api.ErrLong},
		{mixed(), []int{3}, counted(9), api.Window{}, api.ErrRange},
		{mixed(), []int{0, 0, -1}, []api.Agg{{}}, api.Window{}, api.ErrRange},
		{mixed(), []int{least}, counted(1), snapshot(), api.ErrRange},
		{mixed(), []int{most}, counted(1), snapshot(), api.ErrRange},
		{mixed(), []int{1, 0, 1}, []api.Agg{{}}, api.Window{}, api.ErrTwice},
		{mixed(), nil, counted(9), api.Window{}, api.ErrLong},
		{mixed(), []int{0}, []api.Agg{{}}, api.Window{}, api.ErrArg},
		{mixed(), []int{0}, []api.Agg{agg(api.Count, 1, "n")}, snapshot(), api.ErrArg},
		{mixed(), []int{0}, []api.Agg{agg(api.Sum, 3, "s")}, api.Window{}, api.ErrRange},
		{mixed(), []int{0}, []api.Agg{agg(api.Sum, 1, "s")}, api.Window{}, api.ErrKind},
		{mixed(), []int{0}, two, api.Window{}, api.ErrTwice},
		{mixed(), nil, nil, api.Window{}, api.ErrArg},
		{mixed(), []int{0, 1}, []api.Agg{agg(api.Count, 0, "a")}, api.Window{}, api.ErrArg},
		{mixed(), []int{0, 1}, counted(7), api.Window{}, api.ErrArg},
		{mixed(), nil, nil, snapshot(), api.ErrArg},
		{mixed(), nil, nil, hopping(1, 1), api.ErrArg},
		{mixed(), []int{}, []api.Agg{}, counting(1), api.ErrArg},
		{mixed(), []int{0}, start, snapshot(), api.ErrArg},
		{mixed(), []int{0, 1}, append(counted(7), start...), snapshot(), api.ErrArg},
		{mixed(), []int{0}, []api.Agg{agg(api.Start, 0, "a")}, snapshot(), api.ErrArg},
		{mixed(), []int{0}, counted(8), snapshot(), api.ErrLong},
		{mixed(), []int{0, 1}, append(counted(6), agg(api.Count, 0, "a")), snapshot(), api.ErrLong},
		{mixed(), []int{0}, []api.Agg{agg(api.Start, 0, "a")}, hopping(1, 1), api.ErrTwice},
		{mixed(), []int{2, 1}, []api.Agg{agg(api.Count, 0, "n"), agg(api.Max, 0, "b")}, counting(1), api.ErrTwice},
	}
}

// P34.1, P34.3: what is wrong with a grouping is told ahead of what is wrong with anything else.
func TestSchemaErrors(t *testing.T) {
	for i, x := range invalid() {
		if c, e := group.Schema(x.s, x.cols, x.aggs, x.w); e != x.e || c != nil {
			t.Error(i, c, e, x.e)
		}
		for _, l := range [][]api.Edge{nil, make([]api.Edge, 1), edges(of(1), 3, -1), edges(of(1), 3, 1)} {
			got, e := group.Rows(l, x.s, x.cols, x.aggs, x.w, -1, -1)
			expect(t, got, e, nil, x.e)
		}
	}
	for _, w := range noWindows() {
		if c, e := group.Schema(mixed(), []int{0}, counted(1), w); e != api.ErrArg || c != nil {
			t.Error(w, c, e)
		}
	}
}

func clock(t *testing.T, l []api.Edge, s api.Schema, cols []int, w api.Window, at, want int, wanted api.Errno) {
	t.Helper()
	if got, e := group.Clock(l, s, cols, w, at); got != want || e != wanted {
		t.Fatalf("clock of %v at %d: %d, error %d, and not %d, error %d", w, at, got, e, want, wanted)
	}
}

// P34.2: the earliest clock of all groups, and of no rows.
func TestClock(t *testing.T) {
	l := slices.Concat(edges(of(1, 5), 2, 1, 9, -1), edges(of(1, 7), 5, 1), edges(of(2, 5), before, 1, 4, 2), edges(of(3, 5), before, 1))
	tests := []struct {
		cols     []int
		w        api.Window
		at, want int
	}{
		{[]int{0}, snapshot(), 12, 12},
		{[]int{0}, snapshot(), forever, forever},
		{nil, hopping(10, 5), 12, 5},
		{[]int{0}, hopping(10, 5), 12, 5},
		{[]int{0}, hopping(2, 10), 7, 7},
		{[]int{0}, hopping(10, 5), forever, forever},
		{[]int{0}, counting(1), 12, 12},
		{[]int{0}, counting(2), 12, 4}, // 5 and 4
		{nil, counting(2), 12, 5},
		{[]int{1}, counting(2), 12, 4},
		{[]int{0, 1}, counting(2), 12, 2},
		{[]int{0}, counting(3), 12, 2},
		{nil, counting(3), 12, 4},
		{[]int{0}, counting(2), 4, 2},
		{[]int{0}, counting(2), 2, 2},
		{[]int{0}, counting(2), 1, 1},
		{[]int{0}, counting(2), 0, 0},
		{[]int{0}, counting(2), forever, forever},
		{[]int{1, 0}, counting(maxCount), last, 2},
	}
	for _, x := range tests {
		clock(t, l, numbers(2), x.cols, x.w, x.at, x.want, api.OK)
	}
	for _, at := range []int{0, 7, last, forever} {
		for _, cols := range [][]int{nil, {0}, {1, 0}} {
			clock(t, nil, numbers(2), cols, counting(2), at, at, api.OK)
			clock(t, edges(of(1, 2), before, 1), numbers(2), cols, counting(2), at, at, api.OK)
			clock(t, nil, numbers(2), cols, snapshot(), at, at, api.OK)
		}
	}
	clock(t, nil, numbers(2), nil, hopping(10, 5), 12, 5, api.OK)
	// Other groups than those of the table have no rows: a start behind the tick does not count.
	clock(t, edges(of(1, 2), 9, 1), numbers(2), []int{0}, counting(2), 7, 7, api.OK)
}

// P34.2: which error of a clock is told where several things are wrong.
func TestClockErrors(t *testing.T) {
	s, zero := numbers(2), []int{0}
	bad := slices.Concat(none(), below(), foreign(), [][]api.Edge{nil})
	for _, at := range append(never(), 5) {
		for _, l := range bad {
			for _, w := range append(noWindows(), snapshot(), counting(2)) {
				clock(t, l, nil, make([]int, 9), w, at, 0, api.ErrSchema)
				clock(t, l, s, make([]int, 9), w, at, 0, api.ErrLong)
				clock(t, l, s, []int{0, 0, 2}, w, at, 0, api.ErrRange)
				clock(t, l, s, []int{-1}, w, at, 0, api.ErrRange)
				clock(t, l, s, []int{1, 1}, w, at, 0, api.ErrTwice)
			}
			for _, w := range noWindows() {
				clock(t, l, s, zero, w, at, 0, api.ErrArg)
			}
		}
		for _, w := range windows() {
			for _, l := range none() {
				clock(t, l, s, zero, w, at, 0, api.ErrArg)
			}
			for _, l := range below() {
				clock(t, l, s, zero, w, at, 0, api.ErrBelow)
			}
			for _, l := range foreign() {
				clock(t, l, s, zero, w, at, 0, api.ErrSchema)
			}
		}
	}
	for _, at := range never() {
		for _, w := range windows() {
			clock(t, nil, s, zero, w, at, 0, api.ErrTime)
			clock(t, edges(of(1, 2), 3, 1), s, zero, w, at, 0, api.ErrTime)
		}
	}
}

// P34.3: the result rows of windows of each kind, with each aggregate, of one group and of several.
func TestRows(t *testing.T) {
	l := slices.Concat(edges(of(1, 5), 2, 1, 9, -1), edges(of(1, 7), 5, 1, 7, -1), edges(of(2, 3), 5, 2))
	count, start := agg(api.Count, 0, "n"), agg(api.Start, 0, "at")
	tests := []struct {
		cols     []int
		aggs     []api.Agg
		w        api.Window
		from, at int
		want     []api.Edge
	}{
		{[]int{0}, sum(), snapshot(), 0, 0, slices.Concat(edges(of(1, 5), 2, 1, 5, -1, 7, 1, 9, -1), edges(of(1, 12), 5, 1, 7, -1), edges(of(2, 6), 5, 1))},
		{[]int{0}, sum(), snapshot(), 6, 0, slices.Concat(edges(of(1, 5), 7, 1, 9, -1), edges(of(1, 12), 6, 1, 7, -1), edges(of(2, 6), 6, 1))},
		{[]int{0}, sum(), snapshot(), forever, 0, nil},
		{[]int{0}, sum(), snapshot(), last, 0, edges(of(2, 6), last, 1)},
		{[]int{0}, nil, snapshot(), 0, 0, slices.Concat(edges(of(1), 2, 1, 9, -1), edges(of(2), 5, 1))},
		{[]int{1, 0}, nil, snapshot(), 0, 0, slices.Concat(edges(of(3, 2), 5, 1), edges(of(5, 1), 2, 1, 9, -1), edges(of(7, 1), 5, 1, 7, -1))},
		{[]int{1}, []api.Agg{count}, snapshot(), 0, 0, slices.Concat(edges(of(3, 2), 5, 1), edges(of(5, 1), 2, 1, 9, -1), edges(of(7, 1), 5, 1, 7, -1))},
		{nil, []api.Agg{count}, snapshot(), 0, 0, slices.Concat(edges(of(1), 2, 1, 5, -1), edges(of(2), 9, 1), edges(of(3), 7, 1, 9, -1), edges(of(4), 5, 1, 7, -1))},
		{nil, []api.Agg{agg(api.Min, 1, "lo"), agg(api.Max, 0, "hi")}, snapshot(), 0, 0, slices.Concat(edges(of(3, 2), 5, 1), edges(of(5, 1), 2, 1, 5, -1))},
		{nil, []api.Agg{agg(api.East, 1, "e"), agg(api.North, 1, "f")}, snapshot(), 0, 0, slices.Concat(edges(of(0, -2), 5, 1, 7, -1, 9, 1), edges(of(0, -1), 7, 1, 9, -1), edges(of(0, 1), 2, 1, 5, -1))},
		{[]int{0}, []api.Agg{count}, hopping(10, 5), 0, 8, slices.Concat(edges(of(1, 2), 0, 1, 5, 1, 10, -1, 15, -1), edges(of(2, 2), 0, 1, 5, 1, 10, -1, 15, -1))},
		{[]int{0}, []api.Agg{count, start}, hopping(10, 5), 0, 8, slices.Concat(edges(of(1, 2, 0), 0, 1, 10, -1), edges(of(1, 2, 5), 5, 1, 15, -1), edges(of(2, 2, 0), 0, 1, 10, -1), edges(of(2, 2, 5), 5, 1, 15, -1))},
		{[]int{0}, []api.Agg{start}, hopping(10, 5), 1, 8, slices.Concat(edges(of(1, 5), 5, 1, 15, -1), edges(of(2, 5), 5, 1, 15, -1))},
		{[]int{0}, []api.Agg{count}, hopping(3, 4), 0, 8, slices.Concat(edges(of(1, 1), 0, 1, 3, -1), edges(of(1, 2), 4, 1, 7, -1), edges(of(2, 2), 4, 1, 7, -1))}, // the front of both groups is 8
		{[]int{0}, []api.Agg{count}, hopping(3, 4), 0, 9, slices.Concat(edges(of(1, 1), 0, 1, 3, -1, 8, 1, 11, -1), edges(of(1, 2), 4, 1, 7, -1), edges(of(2, 2), 4, 1, 7, -1, 8, 1, 11, -1))},
		{[]int{1}, []api.Agg{count}, hopping(2, 2), 0, 0, slices.Concat(edges(of(3, 2), 4, 1, 6, -1), edges(of(5, 1), 2, 1, 4, -1), edges(of(7, 1), 4, 1, 6, -1))}, // each group has a front of its own
		{nil, []api.Agg{count}, hopping(2, 2), 0, 0, slices.Concat(edges(of(1), 2, 1, 4, -1), edges(of(4), 4, 1, 6, -1))},
		{nil, []api.Agg{count, start}, counting(1), 0, 0, slices.Concat(edges(of(1, 2), 2, 1, 3, -1), edges(of(3, 5), 5, 1, 6, -1))},
		{nil, []api.Agg{agg(api.Sum, 1, "s")}, counting(2), 0, forever, edges(of(18), 2, 1, 6, -1)},
		{[]int{0}, sum(), counting(2), 0, 0, edges(of(1, 12), 2, 1, 6, -1)},
		{[]int{0}, sum(), counting(1), 3, 0, slices.Concat(edges(of(1, 7), 5, 1, 6, -1), edges(of(2, 6), 5, 1, 6, -1))},
		{[]int{0}, sum(), counting(3), 0, forever, nil},
	}
	for i, x := range tests {
		got, e := group.Rows(l, numbers(2), x.cols, x.aggs, x.w, x.from, x.at)
		if e != api.OK || !same(got, x.want) {
			t.Error(i, got, e, x.want)
		}
	}
	for _, w := range windows() {
		got, e := group.Rows(nil, numbers(2), nil, counted(1), w, 0, forever)
		expect(t, got, e, nil, api.OK)
	}
}

// P34.3: texts that are grouped by, and of which the first and the last one are told; rows of as many columns as there may be.
func TestTexts(t *testing.T) {
	r := func(a int, b string, c int) api.Row { return api.Row{value.Num(a), text(b), value.Num(c)} }
	l := slices.Concat(edges(r(1, "", 4), 2, 1), edges(r(1, "x", 5), 3, 1), edges(r(2, "xy", 6), 3, 1, 4, -1))
	got, e := group.Rows(l, mixed(), []int{1}, []api.Agg{agg(api.Max, 0, "hi")}, snapshot(), 0, 0)
	want := slices.Concat(edges(api.Row{text(""), value.Num(1)}, 2, 1), edges(api.Row{text("x"), value.Num(1)}, 3, 1), edges(api.Row{text("xy"), value.Num(2)}, 3, 1, 4, -1))
	expect(t, got, e, want, api.OK)
	got, e = group.Rows(l, mixed(), nil, []api.Agg{agg(api.Max, 1, "hi"), agg(api.Min, 1, "lo")}, snapshot(), 0, 0)
	want = slices.Concat(edges(api.Row{text(""), text("")}, 2, 1, 3, -1), edges(api.Row{text("x"), text("")}, 4, 1), edges(api.Row{text("xy"), text("")}, 3, 1, 4, -1))
	expect(t, got, e, want, api.OK)
	eight := of(1, 2, 3, 4, 5, 6, 7, 8)
	got, e = group.Rows(edges(eight, 2, 3), numbers(maxCols), []int{7, 6, 5, 4, 3, 2, 1, 0}, nil, snapshot(), 0, 0)
	expect(t, got, e, edges(of(8, 7, 6, 5, 4, 3, 2, 1), 2, 1), api.OK)
	got, e = group.Rows(edges(eight, 2, 3), numbers(maxCols), nil, counted(maxAggs), snapshot(), 0, 0)
	expect(t, got, e, edges(of(3, 3, 3, 3, 3, 3, 3, 3), 2, 1), api.OK)
}

// P34.3: which error is told where several things are wrong with the table and the ticks.
func TestRowsErrors(t *testing.T) {
	refuse := func(l []api.Edge, w api.Window, from, at int, want api.Errno) {
		t.Helper()
		got, e := group.Rows(l, numbers(2), []int{0}, sum(), w, from, at)
		expect(t, got, e, nil, want)
	}
	for _, w := range windows() {
		for _, at := range append(never(), 5) {
			for _, l := range none() {
				refuse(l, w, 5, at, api.ErrArg)
				refuse(l, w, at, 5, api.ErrArg)
			}
			for _, l := range below() {
				refuse(l, w, 5, at, api.ErrBelow)
				refuse(l, w, at, 5, api.ErrBelow)
			}
			for _, l := range foreign() {
				refuse(l, w, 5, at, api.ErrSchema)
				refuse(l, w, at, 5, api.ErrSchema)
			}
		}
		for _, at := range never() {
			over := edges(of(1, most), 2, 2)
			for _, l := range [][]api.Edge{nil, over, stairs(maxEdges, 0, 1)} {
				refuse(l, w, 5, at, api.ErrTime)
				refuse(l, w, at, 5, api.ErrTime)
				refuse(l, w, at, at, api.ErrTime)
			}
		}
	}
}

// P34.3: the first group that has an error, and of it the error of its windows, or that of its first window that has one.
func TestGroupErrors(t *testing.T) {
	over := func(g, at int) []api.Edge { return edges(of(g, most), at, 2, at+1, -2) }
	full := func(g, at int) []api.Edge {
		return slices.Concat(edges(of(g, 1), at, maxNet, at+1, -maxNet), edges(of(g, 2), at, 1, at+1, -1))
	}
	many := func(g int) []api.Edge { return stairs(maxWindows+1, 0, g) }
	tests := []struct {
		l []api.Edge
		w api.Window
		e api.Errno
	}{
		{over(1, 5), snapshot(), api.ErrOver},
		{over(1, 5), hopping(10, 5), api.ErrOver},
		{over(1, 5), counting(1), api.ErrOver},
		{over(1, 5), counting(2), api.OK},
		{edges(of(1, most), 5, 1), snapshot(), api.OK},
		{edges(of(1, least), 5, 2), snapshot(), api.ErrOver},
		{slices.Concat(edges(of(1, -1), 5, 1), edges(of(1, 1<<62), 6, 1), edges(of(1, most), 5, 1)), snapshot(), api.ErrOver},
		{slices.Concat(edges(of(1, -1<<62), 5, 1), edges(of(1, 1<<62), 5, 1), edges(of(1, most), 5, 1)), snapshot(), api.OK},
		{full(1, 5), snapshot(), api.ErrFull},
		{full(1, 5), hopping(10, 5), api.ErrFull},
		{full(1, 5), counting(1), api.ErrFull},
		{full(1, 5), counting(2), api.OK},
		{edges(of(1, 1), 5, maxNet), snapshot(), api.OK},
		{edges(of(1, 1), 5, maxNet, 6, 1), snapshot(), api.ErrFull},
		{edges(of(1, 1), 5, maxNet, 6, -1, 7, 1), snapshot(), api.OK},
		{edges(of(1, 1), 5, maxNet, 6, -1, 7, 1), hopping(2, 1), api.OK},
		{edges(of(1, 1), 5, maxNet, 6, -1, 7, 1), hopping(3, 1), api.ErrFull},
		{edges(of(1, 1), before, maxNet, 6, maxNet), snapshot(), api.ErrFull},
		{slices.Concat(edges(of(1, 1), 5, maxNet-1), edges(of(1, 2), 5, 1)), snapshot(), api.OK},
		{slices.Concat(edges(of(1, 1), 5, maxNet, 6, -maxNet), edges(of(1, 2), 6, maxNet, 7, -maxNet), edges(of(1, 3), 7, maxNet)), snapshot(), api.OK}, // there is never room for two windows
		{slices.Concat(edges(of(1, 1), 7, maxNet), edges(of(1, 2), 6, maxNet, 7, -maxNet), edges(of(1, 3), 5, maxNet, 6, -maxNet)), snapshot(), api.OK},
		{slices.Concat(edges(of(1, 1), 5, maxNet, 6, -maxNet), edges(of(1, 2), 6, maxNet, 7, -maxNet)), hopping(1, 1), api.OK},
		{slices.Concat(edges(of(1, 1), 5, maxNet), edges(of(1, 2), 6, maxNet)), counting(1), api.OK},
		{slices.Concat(edges(of(1, 1), 5, maxNet), edges(of(2, 2), 5, maxNet)), snapshot(), api.OK},
		{edges(of(1, most), 5, maxNet, 6, 1), snapshot(), api.ErrOver},
		{edges(of(1, most), 5, maxNet, 6, maxNet), hopping(10, 5), api.ErrFull}, // both in one window: the room is looked at first
		{slices.Concat(edges(of(1, 1), 5, maxNet, 6, -maxNet), edges(of(1, 2), 5, 1), edges(of(1, most), 7, 2)), snapshot(), api.ErrFull},
		{slices.Concat(edges(of(1, 1), 7, maxNet), edges(of(1, 2), 7, 1), edges(of(1, most), 5, 2, 6, -2)), snapshot(), api.ErrOver},
		{many(1), snapshot(), api.ErrFull},
		{slices.Concat(many(1), edges(of(1, most), 0, 2)), snapshot(), api.ErrFull},
		{slices.Concat(many(1), over(2, 5)), snapshot(), api.ErrFull},
		{slices.Concat(over(1, 5), many(2)), snapshot(), api.ErrOver},
		{slices.Concat(over(1, 9), full(2, 3)), snapshot(), api.ErrOver},
		{slices.Concat(full(1, 9), over(2, 3)), snapshot(), api.ErrFull},
		{slices.Concat(edges(of(1, 1), 0, 1), full(2, 9), over(3, 3)), snapshot(), api.ErrFull},
		{slices.Concat(edges(of(1, 1), 0, 1), over(2, 9), full(3, 3)), snapshot(), api.ErrOver},
	}
	for i, x := range tests {
		got, e := group.Rows(x.l, numbers(2), []int{0}, sum(), x.w, 0, 12)
		if e != x.e || e != api.OK && got != nil {
			t.Error(i, len(got), e, x.e)
		}
		if _, e := meant(x.l, numbers(2), []int{0}, sum(), x.w, 0, 12); e != x.e {
			t.Error(i, "meant", e, x.e)
		}
	}
	// Groups are in the order of the values that are grouped by, not in that of the rows.
	l := slices.Concat(edges(of(1, 2), 5, maxNet, 6, 1), edges(of(most, 1), 5, 2))
	got, e := group.Rows(l, numbers(2), []int{1}, []api.Agg{agg(api.Sum, 0, "s")}, snapshot(), 0, 0)
	expect(t, got, e, nil, api.ErrOver)
	got, e = group.Rows(l, numbers(2), []int{0}, []api.Agg{agg(api.Sum, 0, "s")}, snapshot(), 0, 0)
	expect(t, got, e, nil, api.ErrFull)
}

// P34.3: as many edges, and as many jumps of a row, as there is room for, and one more; an error of a later group is told ahead of that.
func TestRoom(t *testing.T) {
	long := func(count int) []api.Edge { // each of another group, there from 0 to 100
		var l []api.Edge
		for i := range count {
			l = append(l, edges(of(i, 5), 0, 1, 100, -1)...)
		}
		return l
	}
	start, over := []api.Agg{agg(api.Start, 0, "at")}, edges(of(maxEdges, most), 0, 2)
	blinks := func(count int) []api.Edge { // there at each second tick
		return saw(of(1, 1), count, 0)
	}
	tests := []struct {
		l    []api.Edge
		aggs []api.Agg
		w    api.Window
		at   int
		want int
		e    api.Errno
	}{
		{wide(maxEdges, 3), sum(), snapshot(), 0, maxEdges, api.OK},
		{wide(maxEdges, 3), sum(), counting(1), 0, 0, api.ErrFull},
		{wide(maxEdges/2, 3), sum(), counting(1), 0, maxEdges, api.OK},
		{wide(maxEdges/2+1, 3), sum(), counting(1), 0, 0, api.ErrFull},
		{long(maxEdges / 2), sum(), snapshot(), 0, maxEdges, api.OK},
		{long(64), start, hopping(1, 1), 32, maxEdges, api.OK},
		{long(65), start, hopping(1, 1), 32, 0, api.ErrFull},
		{long(64), start, hopping(1, 1), 33, 0, api.ErrFull},
		{long(2), start, hopping(1, 1), 100, 400, api.OK},
		{slices.Concat(long(64), over), sum(), hopping(1, 1), 32, 0, api.ErrOver},
		{slices.Concat(long(100), over), append(start, sum()...), hopping(1, 1), 100, 0, api.ErrOver},
		{slices.Concat(wide(maxEdges-1, 3), over), sum(), counting(1), 0, 0, api.ErrOver},
		{blinks(maxJumps), sum(), snapshot(), 0, maxJumps, api.OK},
		{blinks(maxJumps), sum(), hopping(1, 2), maxJumps, maxJumps, api.OK},
		{edges(of(1, 1), 0, 1), sum(), hopping(1, 2), maxJumps, maxJumps, api.OK},
		{edges(of(1, 1), 0, 1), sum(), hopping(1, 2), maxJumps + 1, 0, api.ErrFull},
		{slices.Concat(edges(of(1, 1), 0, 1), over), sum(), hopping(1, 2), maxJumps + 1, 0, api.ErrOver},
		{slices.Concat(edges(of(1, 1), 0, 1), edges(of(2, 1), 0, 1, 2, -1)), sum(), hopping(1, 2), maxJumps + 1, 0, api.ErrFull},
		{edges(of(1, 1), 0, 1), append(start, sum()...), hopping(1, 2), maxJumps + 1, maxJumps + 2, api.OK},
		{edges(of(1, 1), 0, 1), sum(), hopping(1, 1), maxWindows, 2, api.OK}, // each begins where another one ends
		{edges(of(1, 1), 0, 1), sum(), hopping(maxSpan, 1), maxWindows, 0, api.ErrFull},
		{edges(of(1, 1), 0, 1), sum(), hopping(maxSpan, 1), maxJumps / 2, maxJumps, api.OK},
		{edges(of(1, 1), 0, 1), sum(), hopping(maxSpan, 1), maxJumps/2 + 1, 0, api.ErrFull},
	}
	for i, x := range tests {
		got, e := group.Rows(x.l, numbers(2), []int{0}, x.aggs, x.w, 0, x.at)
		if len(got) != x.want || e != x.e || !edge.Table(got) {
			t.Error(i, len(got), e, x.want, x.e)
		}
	}
}

// dice are numbers without a pattern, the same each time.
type dice uint64

func (d *dice) roll(n int) int {
	*d = *d*6364136223846793005 + 1442695040888963407
	return int(uint64(*d)>>33) % n
}

// table is of a few mixed rows at a few instants, from a place on.
func (d *dice) table(base, width int) []api.Edge {
	var l []api.Edge
	for range d.roll(12) {
		r := api.Row{value.Num(d.roll(2)), text([]string{"", "a", "b"}[d.roll(3)]), value.Num(d.roll(4) - 1)}
		if d.roll(40) == 0 {
			r[2] = value.Num([]int{most, least}[d.roll(2)])
		}
		from, net := base+d.roll(width), 1+d.roll(3)
		l = append(l, edges(r, from, net)...)
		if d.roll(4) > 0 {
			l = append(l, edges(r, min(from+1+d.roll(width), forever), -net)...)
		}
	}
	made, e := edge.Norm(l...)
	if e != api.OK || !edge.Table(made) {
		panic(e)
	}
	return made
}

// window is a definition of any kind, with small numbers.
func (d *dice) window() api.Window {
	return []api.Window{snapshot(), hopping(1+d.roll(9), 1+d.roll(9)), counting(1 + d.roll(5))}[d.roll(3)]
}

// cols are some columns of mixed rows, in any order.
func (d *dice) cols() []int {
	all := [][]int{nil, {0}, {1}, {2}, {0, 1}, {1, 0}, {2, 1}, {2, 0}, {1, 2, 0}}
	return all[d.roll(len(all))]
}

// aggs are some aggregates of mixed rows that suit a window, one at least.
func (d *dice) aggs(w api.Window) []api.Agg {
	all := []api.Agg{agg(api.Count, 0, "n"), agg(api.Sum, 2, "s"), agg(api.Min, 1, "lo"), agg(api.Max, 2, "hi"), agg(api.East, 2, "e"), agg(api.North, 0, "f"), agg(api.Start, 0, "at")}
	if w.Kind == api.Snapshot {
		all = all[:6]
	}
	var l []api.Agg
	for range 1 + d.roll(4) {
		a := all[d.roll(len(all))]
		a.Name = "x" + strconv.Itoa(len(l))
		l = append(l, a)
	}
	return l
}

// values are what a row has at some columns.
func values(r api.Row, cols []int) api.Row {
	var l api.Row
	for _, c := range cols {
		l = append(l, r[c])
	}
	return l
}

// groups are the values that rows have at some columns, in order.
func groups(l []api.Edge, cols []int) []api.Row {
	var found []api.Row
	for _, e := range l {
		found = append(found, values(e.Row, cols))
	}
	slices.SortFunc(found, row.Compare)
	return slices.CompactFunc(found, func(a, b api.Row) bool { return slices.Equal(a, b) })
}

// only is the edges of the rows that have values at some columns.
func only(l []api.Edge, cols []int, v api.Row) []api.Edge {
	var kept []api.Edge
	for _, e := range l {
		if slices.Equal(values(e.Row, cols), v) {
			kept = append(kept, e)
		}
	}
	return kept
}

// result is the row of a window, of a tally of its own.
func result(v api.Row, p api.Part, s api.Schema, aggs []api.Agg) (api.Row, api.Errno) {
	total := 0
	for _, c := range p.Rows {
		total += c.N
	}
	if total > maxNet {
		return nil, api.ErrFull
	}
	m, _ := tally.New(s, aggs...)
	for _, c := range p.Rows {
		if e := m.Put(c.Row, c.N); e != api.OK {
			panic(e)
		}
	}
	r, e := m.Row(p.Span.From)
	return slices.Concat(v, r), e
}

// meant is the document's meaning, of valid arguments, group by group and window by window.
func meant(l []api.Edge, s api.Schema, cols []int, aggs []api.Agg, w api.Window, from, at int) ([]api.Edge, api.Errno) {
	var made []api.Edge
	for _, v := range groups(l, cols) {
		parts, e := window.Parts(w, only(l, cols, v), from, at)
		if e != api.OK {
			return nil, e
		}
		for _, p := range parts {
			r, e := result(v, p, s, aggs)
			if e != api.OK {
				return nil, e
			}
			made = append(made, edges(r, p.Span.From, 1, p.Span.To, -1)...)
		}
	}
	return edge.Norm(made...)
}

// P34.2, P34.3: tables of a few rows, held against the meaning.
func TestMeaning(t *testing.T) {
	d := dice(343)
	seen := map[api.Errno]int{}
	for i := range 20000 {
		base := before
		if i%4 == 0 {
			base = last - 20 // so that windows are cut where all ticks end
		}
		l, w, cols := d.table(base, 14), d.window(), d.cols()
		aggs, from, at := d.aggs(w), max(0, base+d.roll(9)), max(0, base+d.roll(21))
		want, wanted := meant(l, mixed(), cols, aggs, w, from, at)
		got, e := group.Rows(l, mixed(), cols, aggs, w, from, at)
		expect(t, got, e, want, wanted)
		if len(got) > 0 || e != api.OK {
			seen[e]++
		}
		earliest, _ := window.Clock(w, nil, at)
		for _, v := range groups(l, cols) {
			c, _ := window.Clock(w, only(l, cols, v), at)
			earliest = min(earliest, c)
		}
		clock(t, l, mixed(), cols, w, at, earliest, api.OK)
	}
	if seen[api.OK] < 5000 || seen[api.ErrOver] < 50 {
		t.Fatal(seen)
	}
}

// times is the value of a row's function at an instant.
func times(l []api.Edge, r api.Row, at int) int {
	n := 0
	for _, e := range l {
		if slices.Equal(e.Row, r) && e.At <= at {
			n += e.Net
		}
	}
	return n
}

// P34.3: in snapshots there is at each tick one row of each group that has rows then, with what is there at that tick.
func TestTicks(t *testing.T) {
	d := dice(3430)
	for range 1000 {
		l, cols, from := d.table(before, 14), d.cols(), d.roll(9)
		got, e := group.Rows(l, mixed(), cols, []api.Agg{agg(api.Count, 0, "n"), agg(api.Max, 1, "hi")}, snapshot(), from, d.roll(20))
		if e != api.OK || !edge.Table(got) {
			t.Fatal(got, e)
		}
		for at := range 35 {
			var want []api.Row
			for _, v := range groups(l, cols) {
				n, hi := 0, ""
				for _, r := range groups(only(l, cols, v), []int{0, 1, 2}) {
					if copies := times(l, r, at); copies > 0 && at >= from {
						n, hi = n+copies, max(hi, r[1].Text)
					}
				}
				if n > 0 {
					want = append(want, slices.Concat(v, api.Row{value.Num(n), text(hi)}))
				}
			}
			var there []api.Row
			for _, r := range groups(got, columns(len(cols)+2)) {
				there = append(there, slices.Repeat([]api.Row{r}, times(got, r, at))...)
			}
			if !slices.EqualFunc(there, want, func(a, b api.Row) bool { return slices.Equal(a, b) }) {
				t.Fatal(l, cols, from, at, there, want)
			}
		}
	}
}

// columns are the first ones, so many.
func columns(count int) []int {
	var l []int
	for i := range count {
		l = append(l, i)
	}
	return l
}

// P34.4: what changes at a tick or later changes neither the clock there nor the part of the result ahead of it.
func TestCertain(t *testing.T) {
	d := dice(344)
	compared := 0
	for range 10000 {
		l, w, cols, at := d.table(before, 14), d.window(), d.cols(), d.roll(25)
		past, _ := edge.Ahead(l, at)
		other, e := edge.Add(past, d.table(at, 14))
		if e != api.OK || !edge.Table(other) {
			t.Fatal(e)
		}
		c, e := group.Clock(l, mixed(), cols, w, at)
		if e != api.OK || c > at {
			t.Fatal(w, at, c, e)
		}
		clock(t, other, mixed(), cols, w, at, c, api.OK)
		aggs, from := d.aggs(w), d.roll(5)
		got, e := group.Rows(l, mixed(), cols, aggs, w, from, at)
		now, f := group.Rows(other, mixed(), cols, aggs, w, from, at+d.roll(9))
		if e != api.OK || f != api.OK { // a sum that does not fit
			continue
		}
		got, _ = edge.Ahead(got, c)
		now, _ = edge.Ahead(now, c)
		expect(t, now, api.OK, got, api.OK)
		compared += min(len(got), 1)
	}
	if compared < 2500 {
		t.Fatal(compared)
	}
}

// P34.4: what is forgotten ahead of the clock changes neither that nor the result from there on.
func TestForgotten(t *testing.T) {
	d := dice(3440)
	for range 20000 {
		l, w, cols, at := d.table(before, 14), d.window(), d.cols(), d.roll(25)
		c, e := group.Clock(l, mixed(), cols, w, at)
		if e != api.OK {
			t.Fatal(e)
		}
		left, e := edge.Rest(l, c)
		if e != api.OK {
			t.Fatal(e)
		}
		aggs := d.aggs(w)
		want, wanted := group.Rows(l, mixed(), cols, aggs, w, c, at)
		got, e := group.Rows(left, mixed(), cols, aggs, w, c, at)
		expect(t, got, e, want, wanted)
		clock(t, left, mixed(), cols, w, at, c, api.OK)
	}
}

// P34.5: the result of each group is that of its own table.
func TestOwnTables(t *testing.T) {
	d := dice(345)
	for range 5000 {
		l, w, cols, at := d.table(before, 14), d.window(), d.cols(), d.roll(25)
		aggs, from := d.aggs(w), d.roll(5)
		whole, e := group.Rows(l, mixed(), cols, aggs, w, from, at)
		if e != api.OK {
			continue
		}
		for _, v := range groups(l, cols) {
			got, e := group.Rows(only(l, cols, v), mixed(), cols, aggs, w, from, at)
			expect(t, got, e, only(whole, columns(len(cols)), v), api.OK)
		}
	}
}

// P1, P2: any arguments are answered: with a table of rows that fit, or with an error.
func TestAnything(t *testing.T) {
	d := dice(346)
	schemas := append(slices.Repeat([]api.Schema{numbers(2)}, 9), numbers(1), numbers(maxCols), nil, api.Schema{{}}, numbers(maxCols+1))
	someCols := append(slices.Repeat([][]int{nil, {0}, {1, 0}}, 5), []int{0, 0}, []int{-1}, []int{most}, []int{least}, make([]int, 9))
	someAggs := append(slices.Repeat([][]api.Agg{nil, counted(1), sum(), {agg(api.Start, 0, "at")}}, 5), []api.Agg{{}}, counted(9), []api.Agg{agg(api.Sum, least, "s")}, []api.Agg{agg(8, 0, "n")}, []api.Agg{agg(api.Count, 0, "a")})
	ws := append(noWindows(), slices.Repeat(windows(), 9)...)
	ticks := append(never(), 0, 1, 2, 3, 4, 5, 6, 7, 8, 9, 10, 11, 12, 13, 14, last, forever)
	rows := append(slices.Repeat([]api.Row{of(2, 7), of(1, most), of(1, 3)}, 4), of(1), nil, api.Row{{}}, of(1, 2, 3, 4, 5, 6, 7, 8))
	answered := 0
	for range 100000 {
		var l []api.Edge
		for range d.roll(4) {
			l = append(l, edges(rows[d.roll(len(rows))], ticks[d.roll(len(ticks))], []int{1, 1, 1, 2, 2, 2, 3, -1, maxNet, 0, maxNet + 1, least}[d.roll(12)])...)
		}
		if made, e := edge.Norm(l...); e == api.OK && d.roll(5) > 0 {
			l = made
		}
		s, cols, aggs, w := schemas[d.roll(len(schemas))], someCols[d.roll(len(someCols))], someAggs[d.roll(len(someAggs))], ws[d.roll(len(ws))]
		from, at := ticks[d.roll(len(ticks))], ticks[d.roll(len(ticks))]
		c, e := group.Schema(s, cols, aggs, w)
		if (e == api.OK) != schema.May(c) || e != api.OK && c != nil {
			t.Fatal(s, cols, aggs, w, c, e)
		}
		got, f := group.Rows(l, s, cols, aggs, w, from, at)
		if !edge.Table(got) || f != api.OK && got != nil || e != api.OK && f != e {
			t.Fatal(l, s, cols, aggs, w, from, at, got, e, f)
		}
		for _, x := range got {
			if !schema.Fits(c, x.Row) {
				t.Fatal(c, x)
			}
			answered++
		}
		if at, e := group.Clock(l, s, cols, w, at); at < 0 || at > forever || e != api.OK && at != 0 {
			t.Fatal(at, e)
		}
	}
	if answered < 500 {
		t.Fatal(answered)
	}
}

// P3: arguments are left as they are, and nothing that is told shares memory with them, or with anything else that is.
func TestOwnMemory(t *testing.T) {
	table := func() []api.Edge {
		return slices.Concat(edges(of(1, 2), 2, 1, 9, -1), edges(of(3, 4), 5, 1, 7, -1, 8, 2))
	}
	for _, w := range []api.Window{snapshot(), hopping(4, 3), counting(1)} {
		spare, s := append(make([]api.Edge, 0, 9), table()...), numbers(2)
		cols, aggs := append(make([]int, 0, 4), 0), append(make([]api.Agg, 0, 4), sum()...)
		c, _ := group.Schema(s, cols, aggs, w)
		got, _ := group.Rows(spare, s, cols, aggs, w, 0, 20)
		other, _ := group.Rows(spare, s, cols, aggs, w, 0, 20)
		want, _ := group.Rows(table(), numbers(2), []int{0}, sum(), w, 0, 20)
		group.Clock(spare, s, cols, w, 20)
		if len(got) < 4 {
			t.Fatal(w, got)
		}
		_ = append(c, api.Col{Name: "x"})
		clear(c)
		for i := range got {
			_ = append(got[i].Row, value.Num(7))
			got[i].Row[0], got[i].At = value.Num(100+i), 77
		}
		for i := range got {
			if got[i].Row[0].Num != 100+i {
				t.Fatal("two rows of one answer share memory", w)
			}
		}
		if !same(spare, table()) || !same(spare[len(spare):cap(spare)], make([]api.Edge, 9-len(spare))) {
			t.Fatal("the table changed", spare[:cap(spare)])
		}
		if !schema.Same(s, numbers(2)) || !slices.Equal(cols[:4], make([]int, 4)) || !slices.Equal(aggs[:4], append(sum(), make([]api.Agg, 3)...)) {
			t.Fatal("an argument changed", s, cols[:4], aggs[:4])
		}
		for i := range spare {
			spare[i].Row[0], spare[i].At = value.Num(55), 1
		}
		expect(t, other, api.OK, want, api.OK)
	}
	for _, cols := range [][]int{{0, 1}, nil} { // one side alone has columns
		aggs := counted(1 - len(cols)/2)
		s := numbers(2)
		c, e := group.Schema(s, cols, aggs, snapshot())
		if e != api.OK {
			t.Fatal(e)
		}
		clear(c)
		if !schema.Same(s, numbers(2)) {
			t.Fatal("shared with the schema")
		}
	}
}
