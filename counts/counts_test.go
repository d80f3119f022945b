package counts_test

import (
	"math"
	"slices"
	"strings"
	"testing"

	"rescind/api"
	"rescind/counts"
	"rescind/edge"
	"rescind/value"
)

const (
	most       = math.MaxInt64
	least      = math.MinInt64
	before     = -1
	forever    = 1 << 50
	last       = forever - 1
	maxNet     = 1 << 20
	maxJumps   = 1 << 10
	maxEdges   = 1 << 12
	maxWindows = 1 << 10
	maxCount   = 64
)

// of is a row of numbers.
func of(l ...int) api.Row {
	var r api.Row
	for _, n := range l {
		r = append(r, value.Num(n))
	}
	return r
}

// edges are those of a row, by their places and sizes, in turn.
func edges(r api.Row, l ...int) []api.Edge {
	var made []api.Edge
	for i := 0; i < len(l); i += 2 {
		made = append(made, api.Edge{Row: slices.Clone(r), At: l[i], Net: l[i+1]})
	}
	return made
}

// saw is the edges of a row that is there in turn and not, so many, one at each instant from a place on.
func saw(r api.Row, count, from int) []api.Edge {
	var l []api.Edge
	for i := range count {
		l = append(l, edges(r, from+i, 1-2*(i%2))...)
	}
	return l
}

// stairs are so many edges, each of another row that stays, at one place after the other.
func stairs(count, from int) []api.Edge {
	var l []api.Edge
	for i := range count {
		l = append(l, edges(of(i), from+i, 1)...)
	}
	return l
}

// many are so many edges, each of another row that stays from a place on.
func many(count, from int) []api.Edge {
	var l []api.Edge
	for i := range count {
		l = append(l, edges(of(i), from, 1)...)
	}
	return l
}

// example is the document's table: it has the starts 2, 5 and 8.
func example() []api.Edge {
	return slices.Concat(edges(of(1), 2, 1, 9, -1), edges(of(2), 5, 1, 7, -1), edges(of(3), 8, 1, 9, -1))
}

// window is a part by its lifetime, its rows, and the sums of their increases.
func window(from, to int, rows ...api.Copy) api.Part {
	return api.Part{Span: api.Span{From: from, To: to}, Rows: rows}
}

func times(n int, r api.Row) api.Copy { return api.Copy{Row: r, N: n} }

// same holds parts against each other, without the program's help.
func same(a, b []api.Part) bool {
	return slices.EqualFunc(a, b, func(x, y api.Part) bool {
		return x.Span == y.Span && slices.EqualFunc(x.Rows, y.Rows, func(c, d api.Copy) bool {
			return c.N == d.N && slices.Equal(c.Row, d.Row)
		})
	})
}

func starts(t *testing.T, l []api.Edge, want []int, wanted api.Errno) {
	t.Helper()
	if got, e := counts.Starts(l); !slices.Equal(got, want) || e != wanted {
		t.Fatalf("starts: %v, error %d, and not %v, error %d", got[:min(len(got), 20)], e, want[:min(len(want), 20)], wanted)
	}
}

func open(t *testing.T, l []api.Edge, n, at, want int, wanted api.Errno) {
	t.Helper()
	if got, e := counts.Open(l, n, at); got != want || e != wanted {
		t.Fatalf("open with %d at %d: %d, error %d, and not %d, error %d", n, at, got, e, want, wanted)
	}
}

func parts(t *testing.T, l []api.Edge, n, from int, want []api.Part, wanted api.Errno) {
	t.Helper()
	if got, e := counts.Parts(l, n, from); !same(got, want) || e != wanted {
		t.Fatalf("parts of %d from %d: %v, error %d, and not %v, error %d", n, from, got[:min(len(got), 20)], e, want[:min(len(want), 20)], wanted)
	}
}

// bad are numbers of which no windows are made, and never are ticks that are none.
func bad() []int { return []int{0, -1, least, maxCount + 1, most} }

func never() []int { return []int{before, -2, least, forever + 1, most} }

// none are lists of edges that are not in form.
func none() [][]api.Edge {
	return [][]api.Edge{
		make([]api.Edge, 1),
		{{}, {}},
		edges(of(1), 6, 0),
		edges(of(1), 6, maxNet+1),
		edges(of(1), 6, least),
		edges(of(1), -2, 1),
		edges(of(1), most, 1),
		edges(of(1), forever, 1),
		edges(of(1), 6, 1, forever, -1),
		edges(of(1), 8, 1, 6, 1),
		edges(of(1), 6, 1, 6, 1),
		edges(of(1, 2, 3, 4, 5, 6, 7, 8, 9), 6, 1),
		edges(api.Row{{}}, 6, 1),
		edges(api.Row{{Kind: api.Text, Text: strings.Repeat("a", 65)}}, 6, 1),
		slices.Concat(edges(of(2), 6, 1), edges(of(1), 6, 1)),
		slices.Concat(edges(of(1), 6, -1), edges(of(2), 6, 0)),
		saw(of(1), maxJumps+1, 0),
		stairs(maxEdges+1, 0),
	}
}

// below are edges in form of which a row is there fewer times than none.
func below() [][]api.Edge {
	return [][]api.Edge{
		edges(of(1), 3, -1),
		edges(of(1), before, -1),
		edges(of(1), before, -1, 0, 1),
		edges(of(1), 2, 1, 4, -2),
		edges(of(1), last, -1),
		slices.Concat(edges(of(1), 2, 1), edges(of(2), 3, -1)),
		saw(of(1), 4, 0)[1:],
	}
}

// P29.1, P29.2, P29.3, P29.4: the document's examples.
func TestExamples(t *testing.T) {
	starts(t, edges(of(1), before, 1), nil, api.OK)
	starts(t, example(), []int{2, 5, 8}, api.OK)
	open(t, example(), 2, 6, 5, api.OK)
	open(t, example(), 2, 9, 8, api.OK)
	open(t, example(), 2, 4, 2, api.OK)
	parts(t, example(), 2, 0, []api.Part{window(2, 6, times(1, of(1)), times(1, of(2))), window(5, 9, times(1, of(2)), times(1, of(3)))}, api.OK)
}

// P29.1: where something begins, each tick once, whichever rows there are.
func TestStarts(t *testing.T) {
	tests := []struct {
		l    []api.Edge
		want []int
	}{
		{nil, nil},
		{[]api.Edge{}, nil},
		{edges(of(1), before, maxNet), nil},
		{edges(of(1), before, 1, 0, 1), []int{0}},
		{edges(of(1), before, 2, 0, -1, 1, -1), nil},
		{edges(of(1), 0, 1), []int{0}},
		{edges(of(1), last, 1), []int{last}},
		{edges(of(1), 0, 1, last, -1), []int{0}},
		{edges(of(1), 3, maxNet, 4, maxNet, 5, -maxNet, 6, 1), []int{3, 4, 6}},
		{slices.Concat(edges(of(), 7, 1), edges(of(1), 3, 1, 7, -1), edges(of(1, 0), 7, 2), edges(of(2), 3, 1, 5, 1)), []int{3, 5, 7}},
		{slices.Concat(edges(of(1), 3, 1, 5, -1), edges(of(2), 5, 1)), []int{3, 5}},
		{slices.Concat(edges(of(1), 9, 1), edges(of(2), 1, 1)), []int{1, 9}},
		{many(maxEdges, 3), []int{3}},
	}
	for _, x := range tests {
		starts(t, x.l, x.want, api.OK)
	}
	var all []int
	for i := range maxEdges {
		all = append(all, i)
	}
	starts(t, stairs(maxEdges, 0), all, api.OK)
}

// P29.2: starts below the tick alone count, and as many of them as belong to a window that is not closed.
func TestOpen(t *testing.T) {
	tests := []struct{ n, at, want int }{
		{1, 0, 0}, {1, 2, 2}, {1, 3, 3}, {1, 9, 9}, {1, last, last},
		{2, 0, 0}, {2, 1, 1}, {2, 2, 2}, {2, 3, 2}, {2, 5, 2}, {2, 6, 5}, {2, 8, 5}, {2, 9, 8}, {2, last, 8},
		{3, 0, 0}, {3, 2, 2}, {3, 3, 2}, {3, 5, 2}, {3, 6, 2}, {3, 8, 2}, {3, 9, 5}, {3, last, 5},
		{4, 2, 2}, {4, 5, 2}, {4, 9, 2}, {4, last, 2},
		{5, 1, 1}, {5, 9, 2}, {5, last, 2},
		{maxCount, 1, 1}, {maxCount, 9, 2}, {maxCount, last, 2},
	}
	for _, x := range tests {
		open(t, example(), x.n, x.at, x.want, api.OK)
	}
	for n := 1; n <= maxCount; n++ {
		open(t, example(), n, forever, forever, api.OK)
		open(t, nil, n, forever, forever, api.OK)
		for _, at := range []int{0, 7, last} {
			open(t, nil, n, at, at, api.OK)
			open(t, edges(of(1), before, 3, 0, -1), n, at, at, api.OK)
		}
		open(t, edges(of(1), last, 1), n, last, last, api.OK)
		open(t, edges(of(1), 0, 1), n, 0, 0, api.OK)
		open(t, stairs(maxEdges, 0), n, 1000, 1000-(n-1), api.OK)
		open(t, stairs(maxEdges, 0), n, n-1, 0, api.OK)
		open(t, stairs(maxEdges, 0), n, n, 1, api.OK)
	}
}

// P29.1, P29.2, P29.3: which error is told where several things are wrong.
func TestErrors(t *testing.T) {
	ticks := []int{0, 5, last, forever}
	for _, l := range none() {
		starts(t, l, nil, api.ErrArg)
		for _, n := range append(bad(), 1, 2, maxCount) {
			for _, at := range append(never(), ticks...) {
				open(t, l, n, at, 0, api.ErrArg)
				parts(t, l, n, at, nil, api.ErrArg)
			}
		}
	}
	for _, n := range bad() {
		for _, at := range append(never(), ticks...) {
			for _, l := range append(below(), nil, example()) {
				open(t, l, n, at, 0, api.ErrArg)
				parts(t, l, n, at, nil, api.ErrArg)
			}
		}
	}
	for _, l := range below() {
		starts(t, l, nil, api.ErrBelow)
		for _, n := range []int{1, 2, maxCount} {
			for _, at := range append(never(), ticks...) {
				open(t, l, n, at, 0, api.ErrBelow)
				parts(t, l, n, at, nil, api.ErrBelow)
			}
		}
	}
	for _, l := range [][]api.Edge{nil, example(), stairs(maxEdges, 0)} {
		for _, n := range []int{1, 2, maxCount} {
			for _, at := range never() {
				open(t, l, n, at, 0, api.ErrTime)
				parts(t, l, n, at, nil, api.ErrTime)
			}
		}
	}
}

// P29.3: windows of any number of starts, and their rows in order with the sums of their increases.
func TestParts(t *testing.T) {
	none, one, two, six := of(), of(1), of(2), of(6)
	mixed := slices.Concat(edges(none, 5, 4), edges(one, 2, 1, 3, 2, 5, 3, 6, -6), edges(of(1, 0), before, 9, 2, -1, 6, 1), edges(two, before, 1, 3, 1), edges(six, 6, 5, 7, -5))
	tests := []struct {
		l       []api.Edge
		n, from int
		want    []api.Part
	}{
		{nil, 1, 0, nil},
		{edges(one, before, 1), 1, 0, nil},
		{edges(one, 0, 2), 1, 0, []api.Part{window(0, 1, times(2, one))}},
		{edges(one, last, 2), 1, 0, []api.Part{window(last, forever, times(2, one))}},
		{edges(one, last, 2), 1, last, []api.Part{window(last, forever, times(2, one))}},
		{edges(one, last, 2), 1, forever, nil},
		{edges(one, last, 2), 2, 0, nil},
		{edges(one, 0, 1, last, 1), 2, 0, []api.Part{window(0, forever, times(2, one))}},
		{edges(one, 3, maxNet, 4, maxNet), 2, 0, []api.Part{window(3, 5, times(2*maxNet, one))}},
		{edges(one, 3, 1, 4, -1, 5, 1, 6, -1), 2, 0, []api.Part{window(3, 6, times(2, one))}},
		{edges(one, before, 5, 3, 1, 4, -2), 1, 0, []api.Part{window(3, 4, times(1, one))}},
		{example(), 1, 0, []api.Part{window(2, 3, times(1, one)), window(5, 6, times(1, two)), window(8, 9, times(1, of(3)))}},
		{example(), 1, 2, []api.Part{window(2, 3, times(1, one)), window(5, 6, times(1, two)), window(8, 9, times(1, of(3)))}},
		{example(), 1, 3, []api.Part{window(5, 6, times(1, two)), window(8, 9, times(1, of(3)))}},
		{example(), 1, 8, []api.Part{window(8, 9, times(1, of(3)))}},
		{example(), 1, 9, nil},
		{example(), 2, 2, []api.Part{window(2, 6, times(1, one), times(1, two)), window(5, 9, times(1, two), times(1, of(3)))}},
		{example(), 2, 3, []api.Part{window(5, 9, times(1, two), times(1, of(3)))}},
		{example(), 2, 5, []api.Part{window(5, 9, times(1, two), times(1, of(3)))}},
		{example(), 2, 6, nil},
		{example(), 3, 0, []api.Part{window(2, 9, times(1, one), times(1, two), times(1, of(3)))}},
		{example(), 3, 3, nil},
		{example(), 4, 0, nil},
		{example(), maxCount, 0, nil},
		{mixed, 1, 0, []api.Part{window(2, 3, times(1, one)), window(3, 4, times(2, one), times(1, two)), window(5, 6, times(4, none), times(3, one)), window(6, 7, times(1, of(1, 0)), times(5, six))}},
		{mixed, 2, 0, []api.Part{window(2, 4, times(3, one), times(1, two)), window(3, 6, times(4, none), times(5, one), times(1, two)), window(5, 7, times(4, none), times(3, one), times(1, of(1, 0)), times(5, six))}},
		{mixed, 4, 0, []api.Part{window(2, 7, times(4, none), times(6, one), times(1, of(1, 0)), times(1, two), times(5, six))}},
		{stairs(maxCount, 3), maxCount, 0, []api.Part{window(3, 3+maxCount, stay(maxCount)...)}},
		{many(maxEdges, 3), 1, 0, []api.Part{window(3, 4, stay(maxEdges)...)}},
	}
	for _, x := range tests {
		parts(t, x.l, x.n, x.from, x.want, api.OK)
	}
}

// stay is so many rows, as they come in stairs, each once.
func stay(count int) []api.Copy {
	var l []api.Copy
	for i := range count {
		l = append(l, times(1, of(i)))
	}
	return l
}

// P29.3: as many windows as there may be, and one more; the starts, the rows, and the windows ahead of the tick don't count.
func TestFull(t *testing.T) {
	tests := []struct {
		l             []api.Edge
		n, from       int
		windows, rows int
		e             api.Errno
	}{
		{stairs(maxWindows, 0), 1, 0, maxWindows, maxWindows, api.OK},
		{stairs(maxWindows+1, 0), 1, 0, 0, 0, api.ErrFull},
		{stairs(maxWindows+1, 0), 1, 1, maxWindows, maxWindows, api.OK},
		{stairs(maxWindows+1, 0), 2, 0, maxWindows, 2 * maxWindows, api.OK},
		{stairs(maxWindows+2, 0), 2, 0, 0, 0, api.ErrFull},
		{stairs(maxWindows+maxCount-1, 0), maxCount, 0, maxWindows, maxCount * maxWindows, api.OK},
		{stairs(maxWindows+maxCount, 0), maxCount, 0, 0, 0, api.ErrFull},
		{stairs(maxWindows+maxCount, 0), maxCount - 1, 2, maxWindows, (maxCount - 1) * maxWindows, api.OK},
		{stairs(maxEdges, 0), maxCount, 0, 0, 0, api.ErrFull},
		{stairs(maxEdges, 0), maxCount, maxEdges - maxWindows - maxCount, 0, 0, api.ErrFull},
		{stairs(maxEdges, 0), maxCount, maxEdges - maxWindows - maxCount + 1, maxWindows, maxCount * maxWindows, api.OK},
		{stairs(maxEdges, 0), maxCount, forever, 0, 0, api.OK},
		{stairs(maxEdges, 0), maxCount, maxEdges - maxCount, 1, maxCount, api.OK},
		{stairs(maxEdges, 0), maxCount, maxEdges - maxCount + 1, 0, 0, api.OK},
		{many(maxEdges, 0), 1, 0, 1, maxEdges, api.OK},
		{saw(of(1), maxJumps, 0), maxCount, 0, maxJumps/2 - maxCount + 1, maxJumps/2 - maxCount + 1, api.OK},
		{slices.Concat(saw(of(1), maxJumps, 0), saw(of(2), maxJumps, 1)), 1, 0, maxJumps, maxJumps, api.OK},
		{slices.Concat(saw(of(1), maxJumps, 0), saw(of(2), maxJumps, 1), edges(of(3), last, 1)), 1, 0, 0, 0, api.ErrFull},
	}
	for i, x := range tests {
		got, e := counts.Parts(x.l, x.n, x.from)
		rows := 0
		for _, p := range got {
			rows += len(p.Rows)
		}
		if len(got) != x.windows || rows != x.rows || e != x.e {
			t.Error(i, len(got), rows, e)
		}
	}
}

// dice are numbers without a pattern, the same each time.
type dice uint64

func (d *dice) roll(n int) int {
	*d = *d*6364136223846793005 + 1442695040888963407
	return int(uint64(*d)>>33) % n
}

// table is of a few rows at a few instants, from a place on.
func (d *dice) table(base, width int) []api.Edge {
	var l []api.Edge
	for range d.roll(9) {
		r, from, net := of(d.roll(3), d.roll(2))[:d.roll(3)], base+d.roll(width), 1+d.roll(3)
		l = append(l, edges(r, from, net)...)
		if d.roll(4) > 0 {
			l = append(l, edges(r, min(from+1+d.roll(width), forever), -net)...)
		}
	}
	made, e := edge.Norm(l...)
	if e != api.OK || !edge.Table(made) {
		panic(e)
	}
	return made
}

// begins are the starts, found tick by tick among those from a tick on.
func begins(l []api.Edge, low, width int) []int {
	var found []int
	for at := low; at < min(low+width, forever); at++ {
		if slices.ContainsFunc(l, func(e api.Edge) bool { return e.At == at && e.Net > 0 }) {
			found = append(found, at)
		}
	}
	return found
}

// meant is the windows of n from a tick on, by the starts: each start with those behind it, and what increases at one of them.
func meant(l []api.Edge, begun []int, n, from int) []api.Part {
	var found []api.Part
	for i, at := range begun {
		if at < from || len(begun)-i < n {
			continue
		}
		own := begun[i : i+n]
		p := window(at, own[n-1]+1)
		for _, e := range l {
			if e.Net < 0 || !slices.Contains(own, e.At) {
				continue
			}
			if end := len(p.Rows) - 1; end >= 0 && slices.Equal(p.Rows[end].Row, e.Row) {
				p.Rows[end].N += e.Net
			} else {
				p.Rows = append(p.Rows, times(e.Net, e.Row))
			}
		}
		found = append(found, p)
	}
	return found
}

// P29.1, P29.2, P29.3: tables held against the meaning, at the first ticks and at the last ones.
func TestMeaning(t *testing.T) {
	d := dice(291)
	for i := range 20000 {
		base, low, at := before, 0, d.roll(30)
		if i%2 == 0 {
			base, low, at = last-14, last-20, last-d.roll(17)
		}
		l, n := d.table(base, 15), 1+d.roll(6)
		begun := begins(l, low, 40)
		starts(t, l, begun, api.OK)
		parts(t, l, n, at, meant(l, begun, n, at), api.OK)
		open(t, l, n, at, firstOpen(begun, n, at), api.OK)
	}
}

// firstOpen is where a window may begin that is not closed at a tick: at the first start that has fewer than n - 1 starts behind it ahead of the tick, or at the tick.
func firstOpen(begun []int, n, at int) int {
	for i, s := range begun {
		following := 0
		for _, other := range begun[i+1:] {
			if other < at {
				following++
			}
		}
		if s < at && following < n-1 {
			return s
		}
	}
	return at
}

// P29.4: what changes at a tick or later leaves the windows that are closed there as they are, and those that begin ahead of what Open tells are closed.
func TestClosedStay(t *testing.T) {
	d := dice(294)
	for range 10000 {
		l, at, n := d.table(before, 14), d.roll(25), 1+d.roll(6)
		ahead, e := edge.Ahead(l, at)
		if e != api.OK {
			t.Fatal(e)
		}
		other, e := edge.Add(ahead, d.table(at, 14))
		if e != api.OK || !edge.Table(other) {
			t.Fatal(e)
		}
		first, e := counts.Open(l, n, at)
		if e != api.OK {
			t.Fatal(e)
		}
		isClosed := func(p api.Part) bool { return p.Span.To <= at }
		isOpen := func(p api.Part) bool { return !isClosed(p) }
		got, e := counts.Parts(l, n, 0)
		now, f := counts.Parts(other, n, 0)
		if e != api.OK || f != api.OK {
			t.Fatal(e, f)
		}
		for _, p := range append(slices.Clone(got), now...) {
			if p.Span.From < first && !isClosed(p) {
				t.Fatal(l, n, at, first, p)
			}
		}
		if !same(slices.DeleteFunc(got, isOpen), slices.DeleteFunc(now, isOpen)) {
			t.Fatal(l, other, n, at)
		}
	}
}

// P29.4: what is forgotten ahead of what Open tells changes neither that nor the windows from there on.
func TestForgotten(t *testing.T) {
	d := dice(295)
	for range 10000 {
		l, at, n := d.table(before, 14), d.roll(25), 1+d.roll(6)
		first, e := counts.Open(l, n, at)
		if e != api.OK {
			t.Fatal(e)
		}
		want, e := counts.Parts(l, n, first)
		if e != api.OK {
			t.Fatal(e)
		}
		left, e := edge.Rest(l, first)
		if e != api.OK {
			t.Fatal(e)
		}
		open(t, left, n, at, first, api.OK)
		parts(t, left, n, first, want, api.OK)
		parts(t, left, n, 0, want, api.OK)
	}
}

// P3: arguments are left as they are, and nothing that is told shares memory with them, or with anything else that is.
func TestOwnMemory(t *testing.T) {
	a, b := of(1, 2), of(3, 4)
	table := func() []api.Edge { return slices.Concat(edges(a, 2, 1, 9, -1), edges(b, 5, 1, 7, -1, 8, 2)) }
	spare := append(make([]api.Edge, 0, 9), table()...)
	got, _ := counts.Parts(spare, 2, 0)
	other, _ := counts.Parts(spare, 2, 0)
	begun, _ := counts.Starts(spare)
	again, _ := counts.Starts(spare)
	wanted := []api.Part{window(2, 6, times(1, a), times(1, b)), window(5, 9, times(3, b))}
	if !same(got, wanted) {
		t.Fatal(got)
	}
	for i := range got {
		for k, c := range got[i].Rows {
			_ = append(c.Row, value.Num(7))
			c.Row[0], c.Row[1] = value.Num(100*i+k), value.Num(8)
			got[i].Rows[k].N = 50
		}
		_ = append(got[i].Rows, api.Copy{N: 9})
	}
	begun[1] = 3
	if !same(other, wanted) || !slices.Equal(again, []int{2, 5, 8}) {
		t.Fatal("shared with another answer", other, again)
	}
	for i := range got {
		for k, c := range got[i].Rows {
			if c.Row[0].Num != 100*i+k {
				t.Fatal("shared within the answer", got)
			}
		}
	}
	for i, e := range spare[:cap(spare)] {
		if i < len(spare) && (!slices.Equal(e.Row, table()[i].Row) || e.At != table()[i].At || e.Net != table()[i].Net) || i >= len(spare) && (e.Row != nil || e.At != 0 || e.Net != 0) {
			t.Fatal("the argument changed", i, e)
		}
	}
	for i := range spare {
		spare[i].Row[0], spare[i].At = value.Num(55), 1
	}
	if !same(other, wanted) || !slices.Equal(again, []int{2, 5, 8}) {
		t.Fatal("shared with the argument", other, again)
	}
}
