package bag_test

import (
	"math"
	"slices"
	"strings"
	"testing"

	"rescind/api"
	"rescind/bag"
	"rescind/edge"
	"rescind/pack"
	"rescind/value"
)

const (
	most      = math.MaxInt64
	least     = math.MinInt64
	before    = -1
	forever   = 1 << 50
	last      = forever - 1
	maxNet    = 1 << 20
	maxJumps  = 1 << 10
	maxEdges  = 1 << 12
	maxPieces = 1 << 12
)

func number(n int) api.Value { return value.Num(n) }

func text(s string) api.Value { return api.Value{Kind: api.Text, Text: s} }

func one(n int) api.Row { return api.Row{number(n)} }

// rows are rows, each behind the one ahead of it; their keys are in another order.
func rows() []api.Row {
	return []api.Row{nil, one(-300), one(-2), one(-1), one(0), one(1), {number(1), number(-1)}, {number(1), text("a")}, {number(1), text("b")}, one(2), one(150), {text("")}, {text("b")}, {text("ba")}, {text("c")}, slices.Repeat(api.Row{text("x")}, 8)}
}

// noRows are lists of values that are no rows.
func noRows() []api.Row {
	return []api.Row{{{}}, {number(1), {}}, {{Kind: 3}}, {{Kind: api.Number, Text: "a"}}, {text(strings.Repeat("a", 65))}, slices.Repeat(one(0), 9), make(api.Row, 1)}
}

// edges are those of a row, by their places and sizes, in turn.
func edges(r api.Row, l ...int) []api.Edge {
	var made []api.Edge
	for i := 0; i < len(l); i += 2 {
		made = append(made, api.Edge{Row: slices.Clone(r), At: l[i], Net: l[i+1]})
	}
	return made
}

// saw is the edges of a row that is there in turn and not, so many, from a place on.
func saw(r api.Row, count, from int) []api.Edge {
	var l []api.Edge
	for i := range count {
		l = append(l, edges(r, from+i, 1-2*(i%2))...)
	}
	return l
}

// full are as many edges as there may be, of four rows with as many as one may have.
func full() []api.Edge {
	return slices.Concat(saw(one(1), maxJumps, 0), saw(one(2), maxJumps, 0), saw(one(3), maxJumps, 0), saw(one(4), maxJumps, 0))
}

// wide are so many edges, each of another row.
func wide(count, net int) []api.Edge {
	var l []api.Edge
	for i := range count {
		l = append(l, edges(one(i), 3, net)...)
	}
	return l
}

// of is a bag with a table, and a mark.
func of(t *testing.T, table []api.Edge, mark int) *bag.Bag {
	t.Helper()
	b := bag.New()
	if e := b.Add(table); e != api.OK {
		t.Fatal(e)
	}
	if e := b.Forget(mark); e != api.OK {
		t.Fatal(e)
	}
	return b
}

// increases are by how much edges go up in all.
func increases(l []api.Edge) int {
	n := 0
	for _, e := range l {
		n += max(e.Net, 0)
	}
	return n
}

// jumpsOf are a row's jumps among edges.
func jumpsOf(l []api.Edge, r api.Row) []api.Jump {
	var f []api.Jump
	for _, e := range l {
		if slices.Equal(e.Row, r) {
			f = append(f, api.Jump{At: e.At, Net: e.Net})
		}
	}
	return f
}

// expect holds all that a bag tells against a table and a mark.
func expect(t *testing.T, b *bag.Bag, table []api.Edge, mark int) {
	t.Helper()
	if got := b.Edges(); !edge.Same(got, table) {
		t.Fatalf("edges: %d, and not %d: %v, %v", len(got), len(table), got[:min(len(got), 9)], table[:min(len(table), 9)])
	}
	if got := b.Mark(); got != mark {
		t.Fatalf("mark: %d, and not %d", got, mark)
	}
	if got := b.Count(); got != increases(table) {
		t.Fatalf("count: %d, and not %d", got, increases(table))
	}
	got, e := b.Pieces()
	want, wanted := pack.Pieces(table)
	if !pack.Same(got, want) || e != wanted {
		t.Fatalf("pieces: %v, error %d, and not %v, error %d", got, e, want, wanted)
	}
	for _, r := range rows() {
		if got := b.Jumps(r); !slices.Equal(got, jumpsOf(table, r)) {
			t.Fatalf("jumps of %v: %v, and not %v", r, got, jumpsOf(table, r))
		}
	}
}

// P12.1
func TestNew(t *testing.T) {
	a, b := bag.New(), bag.New()
	expect(t, a, nil, before)
	if e := a.Add(edges(one(1), 2, 1)); e != api.OK {
		t.Fatal(e)
	}
	if e := a.Forget(3); e != api.OK {
		t.Fatal(e)
	}
	expect(t, b, nil, before)
	expect(t, bag.New(), nil, before)
	if a == b {
		t.Fatal("one bag alone")
	}
}

// P12.1 to P12.3
func TestNil(t *testing.T) {
	var b *bag.Bag
	for _, l := range [][]api.Edge{nil, edges(one(1), 2, 1), edges(one(1), 2, 0), edges(one(1), 2, -1), wide(maxEdges+1, 1)} {
		if e := b.Add(l); e != api.ErrNil {
			t.Error(l[:min(len(l), 9)], e)
		}
	}
	for _, at := range []int{least, before, 0, 5, forever, most} {
		if e := b.Forget(at); e != api.ErrNil {
			t.Error(at, e)
		}
	}
	if b.Mark() != before || len(b.Edges()) != 0 || len(b.Jumps(one(1))) != 0 || len(b.Jumps(nil)) != 0 || len(b.Jumps(noRows()[0])) != 0 || b.Count() != 0 {
		t.Error("a nil bag is not empty")
	}
	if l, e := b.Pieces(); len(l) != 0 || e != api.ErrNil {
		t.Error(l, e)
	}
}

// P12.1: the document's example, and others by hand.
func TestAdd(t *testing.T) {
	start := edges(one(1), 2, 1, 9, -1)
	tests := []struct {
		l, want []api.Edge
		e       api.Errno
	}{
		{nil, start, api.OK},
		{[]api.Edge{}, start, api.OK},
		{edges(one(1), 4, -2), nil, api.ErrBelow},
		{edges(one(1), 4, -1), nil, api.ErrBelow}, // it would be below at 9
		{edges(one(1), 4, -1, 9, 1), edges(one(1), 2, 1, 4, -1), api.OK},
		{edges(one(1), 4, 1), edges(one(1), 2, 1, 4, 1, 9, -1), api.OK},
		{edges(one(1), 9, 1), edges(one(1), 2, 1), api.OK},
		{edges(one(1), 9, 1, 12, -1), edges(one(1), 2, 1, 12, -1), api.OK},
		{edges(one(1), 2, -1, 9, 1), nil, api.OK},
		{edges(one(1), 2, -1, 3, 1), edges(one(1), 3, 1, 9, -1), api.OK},
		{edges(one(1), before, 1), edges(one(1), before, 1, 2, 1, 9, -1), api.OK},
		{edges(one(1), before, 1, 2, -1), edges(one(1), before, 1, 9, -1), api.OK},
		{edges(one(1), last, 1), edges(one(1), 2, 1, 9, -1, last, 1), api.OK},
		{edges(one(2), 4, 1), slices.Concat(start, edges(one(2), 4, 1)), api.OK},
		{edges(nil, 4, 1), slices.Concat(edges(nil, 4, 1), start), api.OK},
		{slices.Concat(edges(nil, 4, 1), edges(one(1), 2, -1, 9, 1), edges(one(2), 5, 3, 7, -3)), slices.Concat(edges(nil, 4, 1), edges(one(2), 5, 3, 7, -3)), api.OK},
		{edges(one(2), 4, -1), nil, api.ErrBelow},
		{edges(one(2), 4, -1, 5, 1), nil, api.ErrBelow},
		{edges(one(1), before, -1), nil, api.ErrBelow},
		{edges(one(1), last, -1), nil, api.ErrBelow},
		{slices.Concat(edges(one(1), 4, 1), edges(one(2), 4, -1)), nil, api.ErrBelow}, // one of them will do
		{slices.Concat(edges(nil, 4, -1), edges(one(1), 4, 1)), nil, api.ErrBelow},
		{edges(one(1), 2, 0), nil, api.ErrArg},
		{edges(one(1), -2, 1), nil, api.ErrArg},
		{edges(one(1), least, 1), nil, api.ErrArg},
		{edges(one(1), 2, 1, forever, -1), nil, api.ErrArg},
		{edges(one(1), most, 1), nil, api.ErrArg},
		{edges(one(1), 2, maxNet+1), nil, api.ErrArg},
		{edges(one(1), 2, least), nil, api.ErrArg},
		{edges(one(1), 5, 1, 2, 1), nil, api.ErrArg},
		{edges(one(1), 5, 1, 5, 1), nil, api.ErrArg},
		{slices.Concat(edges(one(2), 5, 1), edges(one(1), 5, 1)), nil, api.ErrArg},
		{make([]api.Edge, 1), nil, api.ErrArg},
		{wide(maxEdges+1, 1), nil, api.ErrArg},
		{saw(one(1), maxJumps+1, 0), nil, api.ErrArg},
	}
	for _, r := range noRows() {
		tests = append(tests, struct {
			l, want []api.Edge
			e       api.Errno
		}{edges(r, 4, 1), nil, api.ErrArg})
	}
	for i, x := range tests {
		b := of(t, start, before)
		if e := b.Add(x.l); e != x.e {
			t.Fatal(i, e)
		}
		if x.e != api.OK {
			x.want = start
		}
		expect(t, b, x.want, before)
	}
}

// P12.1: the first error of several, and that nothing changes with one.
func TestAddErrors(t *testing.T) {
	wide := wide(maxEdges, maxNet)
	tests := []struct {
		table []api.Edge
		mark  int
		l     []api.Edge
		e     api.Errno
	}{
		{edges(one(1), 7, 1), 5, edges(one(1), 4, 1), api.ErrLate},
		{edges(one(1), 7, 1), 5, edges(one(1), before, 1), api.ErrLate},
		{edges(one(1), 7, 1), 5, edges(one(1), 4, 1, 5, 1), api.ErrLate},
		{edges(one(1), 7, 1), 5, slices.Concat(edges(one(1), 8, 1), edges(one(2), 4, 1)), api.ErrLate}, // wherever it stands
		{edges(one(1), 7, 1), 5, slices.Concat(edges(one(1), 4, 1), edges(one(2), 8, 1)), api.ErrLate},
		{edges(one(1), 7, 1), 0, edges(one(1), before, 1), api.ErrLate},
		{edges(one(1), 7, 1), last, edges(one(1), last-1, 1), api.ErrLate},
		{edges(one(1), 7, 1), forever, edges(one(1), last, 1), api.ErrLate},
		{edges(one(1), 7, 1), most, edges(one(1), last, 1), api.ErrLate},
		{edges(one(1), 7, 1), 5, edges(one(1), 4, 1, 5, 0), api.ErrArg}, // told ahead of that it is late
		{edges(one(1), 7, 1), 5, edges(one(1), -2, 1), api.ErrArg},
		{edges(one(1), 7, 1), 5, edges(noRows()[0], 4, 1), api.ErrArg},
		{edges(one(1), 7, maxNet), 5, edges(one(1), 4, 1, 7, 1), api.ErrLate}, // told ahead of that there is no room
		{edges(one(1), 7, maxNet), 5, edges(one(1), 4, -1), api.ErrLate},      // and of that it would be below
		{edges(one(1), 7, maxNet), 5, edges(one(1), 7, 1), api.ErrFull},
		{edges(one(1), 7, maxNet), 5, edges(one(1), 6, -1, 7, 1), api.ErrFull}, // told ahead of that it would be below
		{edges(one(1), 7, maxNet), 5, slices.Concat(edges(nil, 6, -1), edges(one(1), 7, 1)), api.ErrFull},
		{edges(one(1), 7, maxNet), 5, slices.Concat(edges(one(1), 7, 1), edges(one(2), 6, -1)), api.ErrFull},
		{edges(one(1), 7, maxNet), 5, slices.Concat(edges(nil, 6, 1), edges(one(1), 7, 1), edges(one(2), 6, 1)), api.ErrFull},
		{edges(one(1), 7, maxNet, 8, -maxNet), 5, edges(one(1), 8, -1), api.ErrFull},
		{saw(one(1), maxJumps, 0), before, edges(one(1), 5000, 1), api.ErrFull},
		{saw(one(1), maxJumps, 0), before, edges(one(1), 5000, -1), api.ErrFull},
		{full(), before, edges(one(5), 1, 1), api.ErrFull},
		{full(), before, edges(one(5), 1, -1), api.ErrFull},
		{full(), before, edges(nil, 1, 1), api.ErrFull},
		{full(), before, slices.Concat(edges(one(4), 0, -1, 1, 1), edges(one(5), 1, 1, 2, 1, 3, 1)), api.ErrFull}, // two fewer, three more
		{full(), before, slices.Concat(edges(one(4), 1, 1), edges(one(5), 1, -1)), api.ErrBelow},
		{wide, before, edges(one(maxEdges), 1, 1), api.ErrFull},
		{wide, before, edges(one(7), 4, 1), api.ErrFull},
		{wide, before, edges(one(7), 3, 1), api.ErrFull},
		{wide, before, edges(one(7), 4, -1), api.ErrFull},
		{wide[:maxEdges-1], before, slices.Concat(edges(one(7), 4, 1), edges(one(9), 4, 1)), api.ErrFull},
		{wide, before, slices.Concat(edges(one(7), 3, -1), edges(one(9), 4, -1)), api.ErrFull},
		{wide[:maxEdges-1], before, edges(one(7), 2, -1), api.ErrBelow},
	}
	for i, x := range tests {
		b := of(t, x.table, x.mark)
		was := b.Edges()
		if e := b.Add(x.l); e != x.e {
			t.Fatal(i, e)
		}
		expect(t, b, was, x.mark)
	}
}

// P12.1: what there is just room for.
func TestAddRoom(t *testing.T) {
	tests := []struct{ table, l []api.Edge }{
		{nil, full()},
		{nil, wide(maxEdges, maxNet)},
		{full()[:maxEdges-2], edges(one(5), 1, 1, 2, -1)},
		{full(), edges(one(4), 0, -1, 1, 1)},
		{full(), slices.Concat(edges(one(4), 0, -1, 1, 1), edges(one(5), 1, 1, 2, 1))}, // two fewer, two more
		{full(), edges(one(1), 2, 5, 3, -5)},
		{saw(one(1), maxJumps-1, 0), edges(one(1), 5000, 3)},
		{saw(one(1), maxJumps, 0), slices.Concat(edges(one(1), 0, -1, 1, 1, 6000, 1), edges(one(2), 3, 1))},
		{wide(maxEdges, 1), wide(maxEdges, maxNet-1)},
		{wide(maxEdges, 1), wide(maxEdges, -1)},
		{wide(maxEdges, 1), slices.Concat(edges(one(7), 3, -1), edges(one(maxEdges+7), 3, 1))},
		{wide(maxEdges, maxNet), edges(one(9), 3, -maxNet)},
		{edges(one(1), 2, maxNet), edges(one(1), 3, maxNet)},
		{edges(one(1), 2, maxNet), edges(one(1), 3, -maxNet)},
	}
	for i, x := range tests {
		b := of(t, x.table, before)
		want, e := edge.Add(x.table, x.l)
		if e != api.OK || b.Add(x.l) != api.OK {
			t.Fatal(i, e)
		}
		expect(t, b, want, before)
	}
}

// P12.1: at the mark itself it may change.
func TestAddAtTheMark(t *testing.T) {
	for _, mark := range []int{before, 0, 5, last} {
		b := of(t, edges(one(1), before, 1), mark)
		if e := b.Add(edges(one(1), mark, 1)); e != api.OK {
			t.Fatal(mark, e)
		}
		if n := b.Count(); n != 2 {
			t.Fatal(mark, n)
		}
	}
	for _, mark := range []int{5, forever, most} {
		if e := of(t, edges(one(1), before, 1), mark).Add(nil); e != api.OK {
			t.Fatal(mark, e)
		}
	}
}

// P12.2: by hand, and as edge.Rest.
func TestForget(t *testing.T) {
	table := slices.Concat(edges(nil, 7, 2), edges(one(1), 2, 1, 9, -1), edges(api.Row{number(1), text("a")}, 1, 1, 3, -1), edges(one(2), before, 3, 4, -1, 6, -2), edges(one(150), last, 1))
	b := of(t, table, 5)
	expect(t, b, slices.Concat(edges(nil, 7, 2), edges(one(1), before, 1, 9, -1), edges(one(2), before, 2, 6, -2), edges(one(150), last, 1)), 5)
	for _, at := range []int{5, 4, 0, before, -2, least} { // not above the mark
		if e := b.Forget(at); e != api.OK {
			t.Fatal(at, e)
		}
		expect(t, b, slices.Concat(edges(nil, 7, 2), edges(one(1), before, 1, 9, -1), edges(one(2), before, 2, 6, -2), edges(one(150), last, 1)), 5)
	}
	for at, mark := before, before; at < 12; at++ {
		b := of(t, table, at)
		mark = max(mark, at)
		want, _ := edge.Rest(table, at)
		expect(t, b, want, mark)
		for next := at; next < 12; next++ { // step by step as at once
			if e := b.Forget(next); e != api.OK {
				t.Fatal(e)
			}
			want, _ := edge.Rest(table, next)
			expect(t, b, want, next)
		}
	}
	for _, at := range []int{last, forever, forever + 1, most} {
		want, _ := edge.Rest(table, at)
		expect(t, of(t, table, at), want, at)
	}
	for _, at := range []int{least, -2, before} {
		expect(t, of(t, table, at), table, before)
	}
}

// P12.2: what is folded may need more room than there is.
func TestForgetWithoutRoom(t *testing.T) {
	high := slices.Concat(edges(nil, 0, 1, 2, -1), edges(one(1), 3, maxNet, 4, 1), edges(one(2), 0, 1, 9, -1))
	tests := []struct {
		table []api.Edge
		at    int
	}{
		{high, 5},
		{high, last},
		{slices.Concat(wide(500, 1), edges(one(500), before, maxNet, 0, maxNet, 1, -maxNet)), 1},
		{slices.Concat(edges(one(0), 0, 1, 1, maxNet), edges(one(1), 0, 1, 1, maxNet)), 2},
	}
	for i, x := range tests {
		b := of(t, x.table, before)
		for range 10 {
			if e := b.Forget(x.at); e != api.ErrFull {
				t.Fatal(i, e)
			}
			expect(t, b, x.table, before)
		}
	}
	b := of(t, high, 4)
	was := b.Edges()
	if e := b.Forget(5); e != api.ErrFull {
		t.Fatal(e)
	}
	expect(t, b, was, 4)
	if e := b.Add(edges(one(3), 4, 1)); e != api.OK { // the mark is where it was
		t.Fatal(e)
	}
	if e := b.Forget(forever); e != api.OK { // nothing is left
		t.Fatal(e)
	}
	expect(t, b, nil, forever)
}

// P12.3: the functions of other rows, and of what is no row, are empty.
func TestJumps(t *testing.T) {
	var table []api.Edge
	for i, r := range rows() {
		if i%2 == 0 {
			table = append(table, edges(r, i, 1, i+5, 2, 40, -3)...)
		}
	}
	b := of(t, table, before)
	expect(t, b, table, before)
	for _, r := range noRows() {
		if f := b.Jumps(r); len(f) != 0 {
			t.Fatal(r, f)
		}
	}
	if f := b.Jumps(api.Row{}); !slices.Equal(f, jumpsOf(table, nil)) {
		t.Fatal(f)
	}
}

// P12.3: the pieces as pack tells them, with its error; the count goes on beyond.
func TestPiecesAndCount(t *testing.T) {
	tests := []struct {
		table []api.Edge
		count int
		e     api.Errno
	}{
		{edges(one(1), 0, 2, 4, -1, 6, 1), 3, api.OK},
		{edges(one(1), before, maxPieces), maxPieces, api.OK},
		{edges(one(1), before, maxPieces+1), maxPieces + 1, api.ErrFull},
		{edges(one(1), 0, 4000, 1, -4000, 2, 97), 4097, api.ErrFull},
		{wide(maxEdges, 1), maxEdges, api.OK},
		{wide(maxEdges, maxNet), maxEdges * maxNet, api.ErrFull},
		{full(), maxEdges / 2, api.OK},
	}
	for i, x := range tests {
		b := of(t, x.table, before)
		l, e := b.Pieces()
		if b.Count() != x.count || e != x.e || e == api.OK && len(l) != x.count || e != api.OK && len(l) != 0 {
			t.Fatal(i, b.Count(), len(l), e)
		}
		expect(t, b, x.table, before)
	}
}

// P12.3: the rows are told in their order, whichever they came in, time and again.
func TestOrder(t *testing.T) {
	var want []api.Edge
	for _, r := range rows() {
		want = append(want, edges(r, 3, 1, 8, -1)...)
	}
	for shift := range rows() {
		b := bag.New()
		for i := range rows() {
			r := rows()[(i*7+shift)%len(rows())]
			if e := b.Add(edges(r, 3, 1, 8, -1)); e != api.OK {
				t.Fatal(e)
			}
		}
		for range 5 {
			expect(t, b, want, before)
		}
	}
}

// dice are numbers that look like chance, and are always the same.
type dice struct{ seed uint32 }

func (d *dice) below(n int) int {
	d.seed = d.seed*1664525 + 1013904223
	return int(d.seed>>8) % n
}

// change is edges of a few rows at a few places from a mark on.
func (d *dice) change(from int) []api.Edge {
	var l []api.Edge
	for range 1 + d.below(5) {
		r := rows()[d.below(len(rows()))]
		net := 1 + d.below(3)
		at := from + d.below(10)
		if d.below(3) == 0 {
			net = -net
		}
		l = append(l, edges(r, at, net, at+1+d.below(8), -net)...)
	}
	made, _ := edge.Norm(l...)
	return made
}

// P12.1 to P12.3: as sums and rests of edges, over many changes.
func TestAsEdges(t *testing.T) {
	d := &dice{1}
	told := map[api.Errno]int{}
	for range 60 {
		b := bag.New()
		var table []api.Edge
		mark := before
		for range 60 {
			if d.below(5) == 0 {
				at := mark - 2 + d.below(5)
				if e := b.Forget(at); e != api.OK {
					t.Fatal(e)
				}
				if at > mark {
					table, _ = edge.Rest(table, at)
					mark = at
				}
			}
			l := d.change(max(before, mark-1+d.below(3)))
			sum, want := edge.Add(table, l)
			switch {
			case slices.ContainsFunc(l, func(e api.Edge) bool { return e.At < mark }):
				want = api.ErrLate
			case want == api.OK && !edge.Table(sum):
				want = api.ErrBelow
			}
			if e := b.Add(l); e != want {
				t.Fatal(e, want)
			}
			if want == api.OK {
				table = sum
			}
			told[want]++
			expect(t, b, table, mark)
		}
	}
	if told[api.OK] < 100 || told[api.ErrBelow] < 100 || told[api.ErrLate] < 100 {
		t.Fatal(told)
	}
}

// P12.4: what was forgotten does not affect what comes.
func TestForgottenOrNot(t *testing.T) {
	d := &dice{2}
	good, below := 0, 0
	for range 60 {
		a, b := bag.New(), bag.New()
		for range 10 {
			l := d.change(before)
			if a.Add(l) != b.Add(l) {
				t.Fatal(l)
			}
		}
		at := d.below(12)
		if e := b.Forget(at); e != api.OK {
			t.Fatal(e)
		}
		for range 20 {
			l := d.change(at)
			e := a.Add(l)
			if other := b.Add(l); other != e {
				t.Fatal(e, other)
			}
			if e == api.OK {
				good++
			} else {
				below++
			}
			mine, e := edge.Rest(a.Edges(), at)
			if other := b.Edges(); e != api.OK || !edge.Same(mine, other) {
				t.Fatal(mine, other, e)
			}
		}
	}
	if good < 100 || below < 100 {
		t.Fatal(good, below)
	}
}

// P12.5: the document's example, and what was added removed again, in another order.
func TestTakeBack(t *testing.T) {
	b := of(t, edges(one(1), 2, 1, 9, -1), 5)
	expect(t, b, edges(one(1), before, 1, 9, -1), 5)
	if e := b.Add(edges(one(1), 7, -1, 9, 1)); e != api.OK {
		t.Fatal(e)
	}
	expect(t, b, edges(one(1), before, 1, 7, -1), 5)
	b = bag.New()
	var added [][]api.Edge
	for i, r := range rows() {
		for k := range 4 {
			added = append(added, edges(r, i+k-1, 1+k, i+2*k+3, -1-k))
		}
	}
	added = append(added, full(), nil)
	for _, l := range added {
		if e := b.Add(l); e != api.OK && len(l) != maxEdges {
			t.Fatal(l, e)
		}
	}
	for i := range len(added) - 2 {
		l := added[i*5%(len(added)-2)]
		neg, _ := edge.Neg(l)
		if e := b.Add(neg); e != api.OK {
			t.Fatal(l, e)
		}
	}
	expect(t, b, nil, before)
	for range 3 {
		if e := b.Add(full()); e != api.OK {
			t.Fatal(e)
		}
		expect(t, b, full(), before)
		neg, _ := edge.Neg(full())
		if e := b.Add(neg); e != api.OK {
			t.Fatal(e)
		}
		expect(t, b, nil, before)
	}
}

// fill fills all that a row has room for.
func fill(r api.Row) {
	whole := r[:cap(r)]
	for i := range whole {
		whole[i] = number(99)
	}
}

// overwrite fills, one edge after the other, all that its row has room for, and looks whether the others stay; and then all that the list has room for.
func overwrite(t *testing.T, l []api.Edge) {
	t.Helper()
	for i := range l {
		var others []api.Edge
		for _, e := range l[i+1:] {
			others = append(others, edges(e.Row, e.At, e.Net)...)
		}
		fill(l[i].Row)
		if !edge.Same(l[i+1:], others) {
			t.Fatal("two rows of one answer share memory")
		}
	}
	whole := l[:cap(l)]
	for i := range whole {
		whole[i] = api.Edge{Row: one(99), At: 77, Net: 99}
	}
}

// P3: a bag keeps nothing of what it was given, does not change it, and gives nothing away of what it keeps.
func TestMemory(t *testing.T) {
	table := slices.Concat(edges(one(1), 2, 1, 5, 1, 9, -2), edges(one(2), 2, 1, 9, -1), edges(api.Row{text("a"), number(3)}, 4, 3))
	l := slices.Concat(edges(one(1), 2, 1, 5, 1, 9, -2), edges(one(2), 2, 1, 9, -1), edges(api.Row{text("a"), number(3)}, 4, 3))
	for _, mark := range []int{before, 1} {
		b := bag.New()
		if e := b.Add(l[:3]); e != api.OK || !edge.Same(l, table) {
			t.Fatal(e, l)
		}
		if e := b.Add(l[3:]); e != api.OK || !edge.Same(l, table) {
			t.Fatal(e, l)
		}
		given := b.Edges()
		again := bag.New()
		if e := again.Add(given); e != api.OK {
			t.Fatal(e)
		}
		overwrite(t, given)
		if e := b.Forget(mark); e != api.OK {
			t.Fatal(e)
		}
		expect(t, again, table, before)
		expect(t, b, table, mark)
		overwrite(t, b.Edges())
		f := b.Jumps(one(1))
		for i := range f[:cap(f)] {
			f[:cap(f)][i] = api.Jump{At: 77, Net: 99}
		}
		p, _ := b.Pieces()
		for i := range p {
			fill(p[i].Row)
			for _, other := range p[i+1:] {
				if slices.Contains(other.Row, number(99)) {
					t.Fatal("two rows of one answer share memory")
				}
			}
		}
		expect(t, b, table, mark)
	}
	if e := bag.New().Add(slices.Repeat(edges(one(1), 5, 1), 2)); e != api.ErrArg {
		t.Fatal(e)
	}
}
