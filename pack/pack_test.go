package pack_test

import (
	"math"
	"slices"
	"strings"
	"testing"

	"rescind/api"
	"rescind/edge"
	"rescind/pack"
	"rescind/row"
	"rescind/value"
)

const (
	most      = math.MaxInt64
	least     = math.MinInt64
	before    = -1
	forever   = 1 << 50
	last      = forever - 1
	maxNet    = 1 << 20
	maxJumps  = 1 << 10
	maxEdges  = 1 << 12
	maxPieces = 1 << 12
)

func number(n int) api.Value { return value.Num(n) }

func text(s string) api.Value { return api.Value{Kind: api.Text, Text: s} }

func one(n int) api.Row { return api.Row{number(n)} }

// rows are rows, each behind the one ahead of it.
func rows() []api.Row {
	return []api.Row{nil, one(-1), one(1), {number(1), text("a")}, {number(1), text("b")}, one(2), {text("")}, slices.Repeat(api.Row{text("x")}, 8)}
}

// noRows are lists of values that are no rows.
func noRows() []api.Row {
	return []api.Row{{{}}, {number(1), {}}, {{Kind: 3}}, {{Kind: api.Number, Text: "a"}}, {text(strings.Repeat("a", 65))}, slices.Repeat(one(0), 9), make(api.Row, 1)}
}

// lives are lifetimes by their ends, in turn.
func lives(l ...int) []api.Span {
	var made []api.Span
	for i := 0; i < len(l); i += 2 {
		made = append(made, api.Span{From: l[i], To: l[i+1]})
	}
	return made
}

// noLives are lifetimes that no piece has.
func noLives() []api.Span {
	return lives(3, 3, 5, 3, 0, 0, forever, forever, before, before, before, -2, before, forever+1, before, most, -2, before, -2, 0, -2, 3, least, most, most, least, least, 0, least, least, 0, before, 0, forever+1, 3, most, forever, forever+1, 0, least, 5, before)
}

// pieces are those of a row, by their ends, in turn.
func pieces(r api.Row, l ...int) []api.Piece {
	var made []api.Piece
	for _, s := range lives(l...) {
		made = append(made, api.Piece{Row: slices.Clone(r), Span: s})
	}
	return made
}

// jumps are jumps by their places and sizes, in turn.
func jumps(l ...int) []api.Jump {
	var f []api.Jump
	for i := 0; i < len(l); i += 2 {
		f = append(f, api.Jump{At: l[i], Net: l[i+1]})
	}
	return f
}

// edges are those of a row, by their places and sizes, in turn.
func edges(r api.Row, l ...int) []api.Edge {
	var made []api.Edge
	for _, j := range jumps(l...) {
		made = append(made, api.Edge{Row: slices.Clone(r), At: j.At, Net: j.Net})
	}
	return made
}

// saw is the edges of a row that is there in turn and not, so many, from a place on.
func saw(r api.Row, count, from int) []api.Edge {
	var l []api.Edge
	for i := range count {
		l = append(l, edges(r, from+i, 1-2*(i%2))...)
	}
	return l
}

// times are the edges of so many rows, each there so many times from a place on.
func times(count, net, from int) []api.Edge {
	var l []api.Edge
	for i := range count {
		l = append(l, edges(one(i), from, net)...)
	}
	return l
}

// apart are so many pieces of a row, with a gap between each and the next.
func apart(r api.Row, count, from int) []api.Piece {
	var l []api.Piece
	for i := range count {
		l = append(l, pieces(r, from+3*i, from+3*i+2)...)
	}
	return l
}

// functions are those over few places, and long ones that jump often or far.
func functions() [][]api.Jump {
	l := [][]api.Jump{nil}
	for _, at := range []int{before, 0, 1, 4, last} {
		for _, f := range l {
			for _, net := range []int{-2, -1, 1, 3} {
				l = append(l, append(slices.Clone(f), api.Jump{At: at, Net: net}))
			}
		}
	}
	var up, down []api.Jump
	for i := range maxJumps / 2 {
		up = append(up, api.Jump{At: i * 7, Net: i%8 + 1})
		down = append(down, api.Jump{At: maxJumps*7 + i, Net: -(8 - i%8)})
	}
	return append(l, up, slices.Concat(up, down), jumps(before, 4096), jumps(last, 4096), jumps(0, 4096, 5, 1), jumps(0, 4096, 5, -4096, last, 1), jumps(0, 4095, 3, -4095, 5, 1), jumps(0, 2048, 3, -2048, 5, 2048, 9, -2047))
}

// sums are how high a function is in the end and least of all, and by how much it goes up in all.
func sums(f []api.Jump) (end, low, up int) {
	for i, j := range f {
		end += j.Net
		up += max(j.Net, 0)
		if low = min(low, end); i == 0 && j.At == before {
			low = end
		}
	}
	return end, low, up
}

// timeOf is the place at which a function has gone up (or down, by sign) the n-th time; the end of all instants, if it has not.
func timeOf(f []api.Jump, sign, n int) int {
	for _, j := range f {
		if n -= max(sign*j.Net, 0); n < 0 {
			return j.At
		}
	}
	return forever
}

// spansOf are a function's lifetimes one by one: the n-th that begins is the n-th that ends.
func spansOf(f []api.Jump) []api.Span {
	var l []api.Span
	_, _, up := sums(f)
	for n := range up {
		l = append(l, api.Span{From: timeOf(f, 1, n), To: timeOf(f, -1, n)})
	}
	return l
}

// tables are lists of edges that are tables.
func tables() [][]api.Edge {
	l := [][]api.Edge{
		nil,
		edges(nil, 0, 1),
		edges(nil, before, 1, 0, -1),
		edges(one(1), 2, 1, 5, -1),
		edges(one(1), before, 3, 4, -1, 6, -2),
		edges(one(1), last, 1),
		edges(one(1), 1, 1, 3, 1, 5, -1, 10, -1),
		edges(one(1), before, 1, 0, 2, 3, -2, 4, 5, 7, -1, 8, -5),
		slices.Concat(edges(one(1), 2, 1, 5, -1), edges(api.Row{number(1), text("a")}, 0, 2, 4, -1), edges(one(2), 2, 1, 5, -1)),
		saw(one(1), maxJumps, 0),
		saw(one(1), maxJumps-1, before),
		slices.Concat(saw(one(1), maxJumps, 0), saw(one(2), maxJumps, before), saw(one(3), maxJumps, 5), saw(one(4), maxJumps, 0)),
		times(maxEdges, 1, 3),
		times(1, maxPieces, 3),
		times(16, maxPieces/16, before),
	}
	var all []api.Edge
	for i, r := range rows() {
		all = append(all, edges(r, i-1, 1, i+2, 2, 12, -2, last, 4)...)
	}
	l = append(l, all)
	for _, f := range functions() {
		if _, low, _ := sums(f); low >= 0 && len(f) > 2 {
			l = append(l, slices.Concat(edge.Build(one(1), f), edges(one(2), 0, 1)))
		}
	}
	return l
}

// piecesOf are a table's pieces, row by row.
func piecesOf(l []api.Edge) []api.Piece {
	var made []api.Piece
	for len(l) > 0 {
		var f []api.Jump
		r := l[0].Row
		for len(l) > 0 && slices.Equal(l[0].Row, r) {
			f = append(f, api.Jump{At: l[0].At, Net: l[0].Net})
			l = l[1:]
		}
		for _, s := range spansOf(f) {
			made = append(made, api.Piece{Row: r, Span: s})
		}
	}
	return made
}

// heaps are lists of pieces that need not be packed.
func heaps() [][]api.Piece {
	l := [][]api.Piece{
		nil,
		slices.Concat(pieces(one(1), 5, 9), pieces(one(1), 2, 5)),
		slices.Concat(pieces(one(1), 2, 5), pieces(one(1), 5, 9)),
		slices.Concat(pieces(one(1), 2, 5), pieces(one(2), 5, 9)),
		slices.Concat(pieces(one(2), 3, 4), pieces(one(1), 1, 10), pieces(one(1), 3, 5)),
		slices.Concat(pieces(one(1), 2, 5), pieces(one(1), 2, 5), pieces(one(1), 2, 4)),
		slices.Concat(pieces(one(1), before, 3), pieces(one(1), 2, forever)),
		slices.Concat(pieces(one(1), before, 0), pieces(one(1), 0, 1), pieces(one(1), 1, forever)),
		slices.Concat(pieces(one(1), before, forever), pieces(one(1), last, forever), pieces(nil, 0, 1)),
		slices.Concat(pieces(one(1), 0, forever), pieces(one(1), 0, forever), pieces(one(1), before, forever)),
		slices.Concat(pieces(one(1), 1, 5), pieces(one(1), 5, 6), pieces(one(1), 5, 7), pieces(one(1), 3, 5)),
		slices.Repeat(pieces(one(3), 4, 7), maxPieces),
		slices.Repeat(slices.Concat(pieces(one(1), 4, 7), pieces(one(1), 7, 9)), maxPieces/2),
		apart(one(1), maxJumps/2, before),
	}
	var all []api.Piece
	for i := range 200 {
		r := rows()[i*5%len(rows())]
		from := i*37%11 - 1
		all = append(all, pieces(r, from, from+1+i*i%7)...)
		l = append(l, slices.Clone(all))
	}
	return l
}

// edgesOf are the edges of the table of pieces, found instant by instant: how often each row is there.
func edgesOf(l []api.Piece) []api.Edge {
	var found []api.Row
	for _, p := range l {
		found = append(found, p.Row)
	}
	slices.SortFunc(found, row.Compare)
	var made []api.Edge
	for _, r := range slices.CompactFunc(found, func(a, b api.Row) bool { return slices.Equal(a, b) }) {
		var ends []int
		for _, p := range l {
			if slices.Equal(p.Row, r) {
				ends = append(ends, p.Span.From, p.Span.To)
			}
		}
		slices.Sort(ends)
		now := 0
		for _, at := range slices.Compact(ends) {
			if n := copies(l, r, at); n != now && at < forever {
				made = append(made, api.Edge{Row: r, At: at, Net: n - now})
				now = n
			}
		}
	}
	return made
}

// copies are how many of the pieces of a row have an instant.
func copies(l []api.Piece, r api.Row, at int) int {
	n := 0
	for _, p := range l {
		if slices.Equal(p.Row, r) && p.Span.From <= at && at < p.Span.To {
			n++
		}
	}
	return n
}

// same holds pieces against each other, without the program's help.
func same(a, b []api.Piece) bool {
	return slices.EqualFunc(a, b, func(x, y api.Piece) bool { return x.Span == y.Span && slices.Equal(x.Row, y.Row) })
}

// expect holds an answer against another one.
func expect(t *testing.T, got []api.Piece, e api.Errno, want []api.Piece, wanted api.Errno) {
	t.Helper()
	if !same(got, want) || e != wanted {
		t.Fatalf("%d, error %d, and not %d, error %d: %v, %v", len(got), e, len(want), wanted, got[:min(len(got), 9)], want[:min(len(want), 9)])
	}
}

// expectEdges does so with edges.
func expectEdges(t *testing.T, got []api.Edge, e api.Errno, want []api.Edge, wanted api.Errno) {
	t.Helper()
	if !edge.Same(got, want) || e != wanted {
		t.Fatalf("%d, error %d, and not %d, error %d: %v, %v", len(got), e, len(want), wanted, got[:min(len(got), 9)], want[:min(len(want), 9)])
	}
}

// deep is a copy that shares nothing.
func deep(l []api.Piece) []api.Piece {
	var c []api.Piece
	for _, p := range l {
		c = append(c, api.Piece{Row: slices.Clone(p.Row), Span: p.Span})
	}
	return c
}

// P11.1
func TestMay(t *testing.T) {
	good := lives(before, 0, before, 1, before, last, before, forever, 0, 1, 0, forever, 2, 5, last, forever)
	for _, r := range append(rows(), api.Row{}) {
		for _, s := range good {
			if !pack.May(api.Piece{Row: r, Span: s}) {
				t.Error(r, s)
			}
		}
		for _, s := range noLives() {
			if pack.May(api.Piece{Row: r, Span: s}) {
				t.Error(r, s)
			}
		}
	}
	for _, r := range noRows() {
		for _, s := range append(noLives(), good...) {
			if pack.May(api.Piece{Row: r, Span: s}) {
				t.Error(r, s)
			}
		}
	}
	if pack.May(api.Piece{}) {
		t.Error("a piece without a lifetime")
	}
}

// P11.1: the document's example, others by hand, the bounds, and what is told first.
func TestSpans(t *testing.T) {
	tests := []struct {
		f    []api.Jump
		want []api.Span
		e    api.Errno
	}{
		{nil, nil, api.OK},
		{jumps(0, 2, 4, -1, 6, 1), lives(0, 4, 0, forever, 6, forever), api.OK},
		{jumps(2, 1, 5, -1), lives(2, 5), api.OK},
		{jumps(before, 1), lives(before, forever), api.OK},
		{jumps(before, 1, 0, -1), lives(before, 0), api.OK},
		{jumps(last, 1), lives(last, forever), api.OK},
		{jumps(3, 1, last, -1), lives(3, last), api.OK},
		{jumps(1, 1, 3, 1, 5, -1, 10, -1), lives(1, 5, 3, 10), api.OK},
		{jumps(1, 1, 3, 2, 5, -2, 10, -1), lives(1, 5, 3, 5, 3, 10), api.OK},
		{jumps(1, 2, 3, -2, 5, 1, 7, -1, 9, 1), lives(1, 3, 1, 3, 5, 7, 9, forever), api.OK},
		{jumps(1, 1, 2, 1, 3, 1, 4, -3), lives(1, 4, 2, 4, 3, 4), api.OK},
		{jumps(2, -1), nil, api.ErrBelow},
		{jumps(before, -1, 0, 1), nil, api.ErrBelow},
		{jumps(2, 1, 5, -2), nil, api.ErrBelow},
		{jumps(2, 1, 5, -2, 6, 1), nil, api.ErrBelow},
		{jumps(2, 3, last, -4), nil, api.ErrBelow},
		{jumps(0, 4097), nil, api.ErrFull},
		{jumps(0, maxNet), nil, api.ErrFull},
		{jumps(0, 4096, 1, -4096, 2, 1), nil, api.ErrFull}, // never more at once, but one after the other
		{jumps(0, 2048, 1, -2048, 2, 2049), nil, api.ErrFull},
		{jumps(0, maxNet, 1, -maxNet-1), nil, api.ErrArg},
		{jumps(0, maxNet, 1, -maxNet, 2, -1), nil, api.ErrBelow}, // told ahead of that there would be too many
		{jumps(before, -1, 0, 5000), nil, api.ErrBelow},
		{jumps(0, 0), nil, api.ErrArg},
		{jumps(2, 1, 5, -1, 6, 0), nil, api.ErrArg},
		{jumps(5, 1, 2, 1), nil, api.ErrArg},
		{jumps(2, 1, 2, 1), nil, api.ErrArg},
		{jumps(2, 1, 2, -1), nil, api.ErrArg},
		{jumps(-2, 1), nil, api.ErrArg},
		{jumps(least, 1), nil, api.ErrArg},
		{jumps(2, 1, forever, -1), nil, api.ErrArg},
		{jumps(most, 1), nil, api.ErrArg},
		{jumps(2, maxNet+1), nil, api.ErrArg},
		{jumps(2, most), nil, api.ErrArg},
		{jumps(2, -1, 1, 1), nil, api.ErrArg}, // told ahead of that it is below 0
		{jumps(2, least), nil, api.ErrArg},
		{make([]api.Jump, 1<<16), nil, api.ErrArg},
	}
	for i, x := range tests {
		if l, e := pack.Spans(x.f); !slices.Equal(l, x.want) || e != x.e {
			t.Errorf("%d: %v, error %d", i, l, e)
		}
	}
	steep := make([]api.Jump, maxJumps)
	for i := range steep {
		steep[i] = api.Jump{At: i, Net: maxNet}
	}
	if l, e := pack.Spans(steep); len(l) != 0 || e != api.ErrFull {
		t.Error(len(l), e)
	}
	if l, e := pack.Spans(append(steep, api.Jump{At: maxJumps, Net: 1})); len(l) != 0 || e != api.ErrArg {
		t.Error(len(l), e)
	}
}

// P11.1: those that begin first end first.
func TestSpansOneByOne(t *testing.T) {
	room, below, full := 0, 0, 0
	for _, f := range functions() {
		l, e := pack.Spans(f)
		_, low, up := sums(f)
		switch {
		case low < 0:
			below++
			if len(l) != 0 || e != api.ErrBelow {
				t.Fatal(f, l, e)
			}
		case up > maxPieces:
			full++
			if len(l) != 0 || e != api.ErrFull {
				t.Fatal(f, l, e)
			}
		default:
			room++
			if !slices.Equal(l, spansOf(f)) || e != api.OK {
				t.Fatal(f, l, e)
			}
		}
	}
	if room < 100 || below < 100 || full == 0 {
		t.Fatal(room, below, full)
	}
}

// P11.1
func TestPieces(t *testing.T) {
	a := api.Row{number(1), text("a")}
	tests := []struct {
		l    []api.Edge
		want []api.Piece
		e    api.Errno
	}{
		{nil, nil, api.OK},
		{edges(one(1), 2, 1, 5, -1), pieces(one(1), 2, 5), api.OK},
		{edges(nil, before, 1), pieces(nil, before, forever), api.OK},
		{edges(one(1), before, 1, 2, 1, 3, -1), pieces(one(1), before, 3, 2, forever), api.OK},
		{slices.Concat(edges(one(1), 5, 1), edges(a, 2, 2, 3, -1), edges(one(2), 1, 1, 2, -1)), slices.Concat(pieces(one(1), 5, forever), pieces(a, 2, 3, 2, forever), pieces(one(2), 1, 2)), api.OK},
		{edges(one(1), 2, -1), nil, api.ErrBelow},
		{slices.Concat(edges(one(1), 2, 1), edges(one(2), 2, -1)), nil, api.ErrBelow},
		{slices.Concat(edges(one(1), 2, -1), edges(one(2), 2, 1)), nil, api.ErrBelow},
		{slices.Concat(edges(one(1), 2, 4097), edges(one(2), 2, -1)), nil, api.ErrBelow}, // told ahead of that there would be too many
		{edges(one(1), 2, 4097), nil, api.ErrFull},
		{slices.Concat(edges(one(1), 2, 2048), edges(one(2), 2, 2049)), nil, api.ErrFull},
		{slices.Concat(edges(one(1), 2, 4096), edges(one(2), 2, 1)), nil, api.ErrFull},
		{slices.Concat(edges(one(1), 2, 1), edges(one(2), 2, 4096)), nil, api.ErrFull},
		{times(maxEdges, maxNet, 3), nil, api.ErrFull},
		{append(times(maxEdges-1, 1, 3), edges(one(maxEdges), 3, 2)...), nil, api.ErrFull},
		{times(maxEdges+1, 1, 3), nil, api.ErrArg},
		{make([]api.Edge, 1), nil, api.ErrArg},
		{edges(one(1), 2, 0), nil, api.ErrArg},
		{edges(one(1), 2, 1, forever, -1), nil, api.ErrArg},
		{edges(one(1), -2, 1), nil, api.ErrArg},
		{edges(one(1), 5, 1, 2, 1), nil, api.ErrArg},
		{slices.Concat(edges(one(2), 2, 1), edges(one(1), 2, 1)), nil, api.ErrArg},
		{slices.Concat(edges(one(2), 2, -1), edges(one(1), 2, 1)), nil, api.ErrArg}, // told ahead of that it is no table
		{slices.Concat(edges(one(1), 2, -1), edges(one(2), 2, maxNet+1)), nil, api.ErrArg},
	}
	for i, x := range tests {
		if l, e := pack.Pieces(x.l); !same(l, x.want) || e != x.e {
			t.Errorf("%d: %v, error %d", i, l[:min(len(l), 9)], e)
		}
	}
	for _, r := range noRows() {
		if l, e := pack.Pieces(edges(r, 2, 1)); len(l) != 0 || e != api.ErrArg {
			t.Error(r, l, e)
		}
	}
}

// P11.1: row by row, and in order.
func TestPiecesRowByRow(t *testing.T) {
	many := 0
	for _, table := range tables() {
		want := piecesOf(table)
		wanted := api.OK
		if len(want) > maxPieces {
			want, wanted = nil, api.ErrFull
		}
		l, e := pack.Pieces(table)
		expect(t, l, e, want, wanted)
		if !slices.IsSortedFunc(l, order) {
			t.Fatal(l)
		}
		if len(l) == maxPieces {
			many++
		}
	}
	if many == 0 {
		t.Fatal("none has as many as may be")
	}
}

// order is by row, then by From, then by To.
func order(a, b api.Piece) int {
	switch {
	case row.Compare(a.Row, b.Row) != 0:
		return row.Compare(a.Row, b.Row)
	case a.Span.From != b.Span.From:
		return a.Span.From - b.Span.From
	}
	return a.Span.To - b.Span.To
}

// P11.2: the document's example, and others by hand.
func TestEdges(t *testing.T) {
	tests := []struct {
		l    []api.Piece
		want []api.Edge
		e    api.Errno
	}{
		{nil, nil, api.OK},
		{pieces(one(1), 3, 3), nil, api.ErrArg},
		{pieces(one(1), 2, 5), edges(one(1), 2, 1, 5, -1), api.OK},
		{pieces(one(1), 2, forever), edges(one(1), 2, 1), api.OK},
		{pieces(one(1), before, 0), edges(one(1), before, 1, 0, -1), api.OK},
		{pieces(one(1), before, forever), edges(one(1), before, 1), api.OK},
		{pieces(one(1), 5, 9, 2, 5), edges(one(1), 2, 1, 9, -1), api.OK},
		{pieces(one(1), 2, 5, 2, 5), edges(one(1), 2, 2, 5, -2), api.OK},
		{pieces(one(1), 2, 5, 5, 9, 5, 7), edges(one(1), 2, 1, 5, 1, 7, -1, 9, -1), api.OK},
		{pieces(one(1), 5, 9, 2, forever, 2, 5, 9, forever), edges(one(1), 2, 2), api.OK},
		{slices.Concat(pieces(one(2), 2, 5), pieces(nil, 2, 5), pieces(one(1), 1, 2), pieces(nil, 4, 7)), slices.Concat(edges(nil, 2, 1, 4, 1, 5, -1, 7, -1), edges(one(1), 1, 1, 2, -1), edges(one(2), 2, 1, 5, -1)), api.OK},
		{make([]api.Piece, 1), nil, api.ErrArg},
	}
	for i, x := range tests {
		if l, e := pack.Edges(x.l...); !edge.Same(l, x.want) || e != x.e {
			t.Errorf("%d: %v, error %d", i, l, e)
		}
	}
	if l, e := pack.Edges(); len(l) != 0 || e != api.OK {
		t.Error(l, e)
	}
}

// P11.2: of pieces in any order, instant by instant.
func TestEdgesInstantByInstant(t *testing.T) {
	for _, l := range heaps() {
		want := edgesOf(l)
		got, e := pack.Edges(l...)
		expectEdges(t, got, e, want, api.OK)
		back := slices.Clone(l)
		slices.Reverse(back)
		got, e = pack.Edges(back...)
		expectEdges(t, got, e, want, api.OK)
		if !edge.Table(got) {
			t.Fatal(got)
		}
	}
}

// P11.2: one piece that may not be is told ahead of that there is no room, wherever it stands.
func TestOfNone(t *testing.T) {
	var none []api.Piece
	for _, s := range noLives() {
		none = append(none, api.Piece{Row: one(1), Span: s})
	}
	for _, r := range noRows() {
		none = append(none, pieces(r, 2, 5)...)
		none = append(none, pieces(r, 3, 3)...)
	}
	good := apart(one(1), 3, 0)
	many := slices.Repeat(pieces(one(1), 2, 5), maxPieces+1)
	for _, p := range none {
		for _, l := range [][]api.Piece{{p}, append([]api.Piece{p}, good...), append(slices.Clone(good), p), slices.Concat(good, []api.Piece{p}, good), append(slices.Clone(many), p), append([]api.Piece{p}, many...)} {
			if got, e := pack.Edges(l...); len(got) != 0 || e != api.ErrArg {
				t.Fatal(p, got, e)
			}
			if got, e := pack.Pack(l...); len(got) != 0 || e != api.ErrArg {
				t.Fatal(p, got, e)
			}
		}
	}
}

// P11.2: at the bounds.
func TestRoom(t *testing.T) {
	var each []api.Piece // of a row each
	for i := range maxPieces + 1 {
		each = append(each, pieces(one(i), 3, forever)...)
	}
	tests := []struct {
		l []api.Piece
		e api.Errno
	}{
		{slices.Repeat(pieces(one(1), 2, 5), maxPieces), api.OK},
		{slices.Repeat(pieces(one(1), 2, 5), maxPieces+1), api.ErrFull},
		{slices.Repeat(pieces(one(1), 2, forever), maxPieces+1), api.ErrFull},
		{apart(one(1), maxJumps/2, 0), api.OK},
		{apart(one(1), maxJumps/2+1, 0), api.ErrFull},
		{append(apart(one(1), maxJumps/2, 0), pieces(one(1), 9999, forever)...), api.ErrFull},
		{append(apart(one(1), maxJumps/2-1, 0), pieces(one(1), 9999, forever)...), api.OK},
		{append(apart(one(1), maxJumps/2, 0), pieces(one(1), 2, 3)...), api.OK}, // it fills a gap
		{append(apart(one(1), maxJumps/2, 0), pieces(one(2), 2, 3)...), api.OK},
		{each[:maxPieces], api.OK},
		{each, api.ErrFull},
		{slices.Concat(apart(one(1), 512, 0), apart(one(2), 512, 0), apart(one(3), 512, 0), apart(one(4), 512, 0)), api.OK},
		{slices.Concat(apart(one(1), 512, 0), apart(one(2), 512, 0), apart(one(3), 512, 0), apart(one(4), 512, 0), pieces(one(5), 1, forever)), api.ErrFull},
		{slices.Concat(apart(one(1), 512, 0), apart(one(2), 512, 0), apart(one(3), 512, 0), apart(one(4), 511, 0), pieces(one(5), 1, forever)), api.OK},
	}
	for i, x := range tests {
		l, e := pack.Edges(x.l...)
		if e != x.e || (e == api.OK) == (len(l) == 0) {
			t.Error(i, len(l), e)
		}
		p, e := pack.Pack(x.l...)
		if e != x.e || (e == api.OK) == (len(p) == 0) {
			t.Error(i, len(p), e)
		}
	}
}

// P11.2: the document's examples, and others by hand.
func TestPack(t *testing.T) {
	tests := []struct{ l, want []api.Piece }{
		{nil, nil},
		{pieces(one(1), 5, 9, 2, 5), pieces(one(1), 2, 9)},
		{pieces(one(1), 1, 10, 3, 5), pieces(one(1), 1, 5, 3, 10)},
		{pieces(one(1), 1, 5, 3, 10), pieces(one(1), 1, 5, 3, 10)},
		{pieces(one(1), before, 0, 0, forever), pieces(one(1), before, forever)},
		{pieces(one(1), 5, 9, 2, 5, 2, 5), pieces(one(1), 2, 5, 2, 9)},
		{pieces(one(1), 7, 9, 2, 5, 5, 6, 6, 7), pieces(one(1), 2, 9)},
		{pieces(one(1), 4, 6, 4, 6), pieces(one(1), 4, 6, 4, 6)},
		{slices.Concat(pieces(one(2), 2, 5), pieces(one(1), 5, 9)), slices.Concat(pieces(one(1), 5, 9), pieces(one(2), 2, 5))},
		{slices.Concat(pieces(one(2), 3, 4), pieces(one(1), 1, 10, 3, 5)), slices.Concat(pieces(one(1), 1, 5, 3, 10), pieces(one(2), 3, 4))},
	}
	for _, x := range tests {
		l, e := pack.Pack(x.l...)
		expect(t, l, e, x.want, api.OK)
	}
	if l, e := pack.Pack(); len(l) != 0 || e != api.OK {
		t.Error(l, e)
	}
	if l, e := pack.Pack(pieces(one(1), 3, 3)...); len(l) != 0 || e != api.ErrArg {
		t.Error(l, e)
	}
}

// P11.2: as the pieces of the table.
func TestPackOfHeaps(t *testing.T) {
	for _, l := range heaps() {
		want := piecesOf(edgesOf(l))
		got, e := pack.Pack(l...)
		expect(t, got, e, want, api.OK)
		back := slices.Clone(l)
		slices.Reverse(back)
		got, e = pack.Pack(back...)
		expect(t, got, e, want, api.OK)
	}
}

// P11.3
func TestSame(t *testing.T) {
	a := slices.Concat(pieces(one(2), 5, 9), pieces(api.Row{{Kind: 9}, number(1)}, 7, least), pieces(nil, most, most), pieces(one(1), 2, 5))
	if !pack.Same(a, deep(a)) || !pack.Same(nil, []api.Piece{}) || !pack.Same(pieces(nil, 1, 2), []api.Piece{{Row: api.Row{}, Span: api.Span{From: 1, To: 2}}}) {
		t.Error("not the same")
	}
	for i := range a {
		s := a[i].Span
		for _, other := range []api.Piece{{Row: one(3), Span: s}, {Row: a[i].Row, Span: api.Span{From: 4, To: s.To}}, {Row: a[i].Row, Span: api.Span{From: s.From, To: 4}}, {Row: append(slices.Clone(a[i].Row), number(0)), Span: s}, {}} {
			b := deep(a)
			b[i] = other
			if pack.Same(a, b) || pack.Same(b, a) {
				t.Error(i, other)
			}
		}
	}
	if pack.Same(a, a[:3]) || pack.Same(a[:3], a) || pack.Same(a, []api.Piece{a[1], a[0], a[2], a[3]}) || pack.Same(a, nil) || pack.Same(nil, a) {
		t.Error("the same")
	}
}

// P11.3: pieces that may be or not, in any order.
func TestAheadAndRest(t *testing.T) {
	l := slices.Concat(pieces(one(2), 5, 9), pieces(one(1), 2, 5), pieces(api.Row{{Kind: 9}}, before, forever), pieces(one(1), 4, 4), pieces(nil, 8, 3), pieces(one(3), least, most))
	x := api.Row{{Kind: 9}}
	tests := []struct {
		at          int
		ahead, rest []api.Piece
	}{
		{4, slices.Concat(pieces(one(1), 2, 4), pieces(x, before, 4), pieces(one(3), least, 4)), slices.Concat(pieces(one(2), 5, 9), pieces(one(1), 4, 5), pieces(x, 4, forever), pieces(one(3), 4, most))},
		{5, slices.Concat(pieces(one(1), 2, 5), pieces(x, before, 5), pieces(one(1), 4, 4), pieces(one(3), least, 5)), slices.Concat(pieces(one(2), 5, 9), pieces(x, 5, forever), pieces(one(3), 5, most))},
		{2, slices.Concat(pieces(x, before, 2), pieces(one(3), least, 2)), slices.Concat(pieces(one(2), 5, 9), pieces(one(1), 2, 5), pieces(x, 2, forever), pieces(one(1), 4, 4), pieces(nil, 8, 3), pieces(one(3), 2, most))},
		{9, slices.Concat(pieces(one(2), 5, 9), pieces(one(1), 2, 5), pieces(x, before, 9), pieces(one(1), 4, 4), pieces(nil, 8, 3), pieces(one(3), least, 9)), slices.Concat(pieces(x, 9, forever), pieces(one(3), 9, most))},
		{before, pieces(one(3), least, before), slices.Concat(pieces(one(2), 5, 9), pieces(one(1), 2, 5), pieces(x, before, forever), pieces(one(1), 4, 4), pieces(nil, 8, 3), pieces(one(3), before, most))},
		{0, slices.Concat(pieces(x, before, 0), pieces(one(3), least, 0)), slices.Concat(pieces(one(2), 5, 9), pieces(one(1), 2, 5), pieces(x, 0, forever), pieces(one(1), 4, 4), pieces(nil, 8, 3), pieces(one(3), 0, most))},
		{forever, slices.Concat(pieces(one(2), 5, 9), pieces(one(1), 2, 5), pieces(x, before, forever), pieces(one(1), 4, 4), pieces(nil, 8, 3), pieces(one(3), least, forever)), pieces(one(3), forever, most)},
		{least, nil, l},
		{most, l, nil},
	}
	for _, x := range tests {
		if got := pack.Ahead(l, x.at); !same(got, x.ahead) {
			t.Error(x.at, got)
		}
		if got := pack.Rest(l, x.at); !same(got, x.rest) {
			t.Error(x.at, got)
		}
	}
	if len(pack.Ahead(nil, 5)) != 0 || len(pack.Rest(nil, 5)) != 0 {
		t.Error("of none")
	}
	if many := slices.Repeat(l, maxPieces); len(pack.Ahead(many, most)) != len(many) || len(pack.Rest(many, least)) != len(many) { // more than a table may have
		t.Error("of many")
	}
}

// P11.4
func TestThereAndBack(t *testing.T) {
	for _, table := range tables() {
		p, e := pack.Pieces(table)
		if e != api.OK {
			continue
		}
		back, e := pack.Edges(p...)
		expectEdges(t, back, e, table, api.OK)
		again, e := pack.Pieces(back)
		expect(t, again, e, p, api.OK)
		again, e = pack.Pack(p...)
		expect(t, again, e, p, api.OK)
		slices.Reverse(p)
		again, e = pack.Pack(p...)
		slices.Reverse(p)
		expect(t, again, e, p, api.OK)
	}
}

// P11.5
func TestPartsArePacked(t *testing.T) {
	room := 0
	for _, table := range tables() {
		p, e := pack.Pieces(table)
		if e != api.OK {
			continue
		}
		for _, at := range []int{least, -2, before, 0, 1, 2, 3, 4, 5, 6, 9, 12, 500, 4000, last, forever, forever + 1, most} {
			ahead := pack.Ahead(p, at)
			if part, e := edge.Ahead(table, at); e == api.OK { // a part may need more room than the whole
				room++
				want, e := pack.Pieces(part)
				expect(t, ahead, e, want, api.OK)
				again, e := pack.Pack(ahead...)
				expect(t, again, e, ahead, api.OK)
			}
			rest := pack.Rest(p, at)
			again, e := pack.Pack(rest...)
			expect(t, again, e, rest, api.OK)
			if whole, e := edge.Ahead(table, at); e == api.OK { // both together are the whole
				left, e := pack.Edges(rest...)
				if e != api.OK {
					t.Fatal(e)
				}
				sum, e := edge.Add(whole, left)
				expectEdges(t, sum, e, table, api.OK)
			}
		}
	}
	if room < 1000 {
		t.Fatal(room)
	}
}

// overwrite fills, one piece after the other, all that its row has room for, and looks whether the others stay; and then all that the list has room for.
func overwrite(t *testing.T, l []api.Piece) {
	t.Helper()
	for i := range l {
		others := deep(l[i+1:])
		fill(l[i].Row)
		if !same(l[i+1:], others) {
			t.Fatal("two rows of one answer share memory")
		}
	}
	whole := l[:cap(l)]
	for i := range whole {
		whole[i] = api.Piece{Row: one(99), Span: api.Span{From: 77, To: 99}}
	}
}

func fill(r api.Row) {
	whole := r[:cap(r)]
	for i := range whole {
		whole[i] = number(99)
	}
}

// P3: what is told shares no memory with what it is of, nor its rows with each other, and nothing is written behind an argument.
func TestArgumentsStay(t *testing.T) {
	calls := []func(l []api.Piece) ([]api.Piece, api.Errno){
		func(l []api.Piece) ([]api.Piece, api.Errno) { return pack.Pack(l...) },
		func(l []api.Piece) ([]api.Piece, api.Errno) { return pack.Ahead(l, 6), api.OK },
		func(l []api.Piece) ([]api.Piece, api.Errno) { return pack.Ahead(l, most), api.OK },
		func(l []api.Piece) ([]api.Piece, api.Errno) { return pack.Rest(l, 3), api.OK },
		func(l []api.Piece) ([]api.Piece, api.Errno) { return pack.Rest(l, least), api.OK },
	}
	whole := slices.Concat(pieces(one(2), 5, 9), pieces(one(1), 2, 5, 2, 7, 5, 8), pieces(api.Row{number(1), text("a")}, 4, 6))
	for i, call := range calls {
		l := deep(whole)
		for _, part := range [][]api.Piece{l[:4], l[:0], l} {
			got, e := call(part)
			other, _ := call(part)
			kept := deep(other)
			if e != api.OK || !same(l, whole) {
				t.Fatal(i, e, l)
			}
			overwrite(t, got)
			if !same(l, whole) || !same(other, kept) {
				t.Fatal(i, "shared")
			}
		}
	}
}

// P3: of edges and jumps, too.
func TestOthersStay(t *testing.T) {
	table := slices.Concat(edges(one(1), 2, 3, 5, -1), edges(one(2), 3, 1))
	was := slices.Concat(edges(one(1), 2, 3, 5, -1), edges(one(2), 3, 1))
	p, _ := pack.Pieces(table)
	overwrite(t, p)
	if !edge.Same(table, was) {
		t.Fatal(table)
	}
	heap := pieces(one(1), 2, 5, 3, 9)
	l, _ := pack.Edges(heap...)
	for i := range l {
		others := slices.Clone(l[i+1:])
		fill(l[i].Row)
		for k, e := range others {
			if !slices.Equal(e.Row, one(1)) {
				t.Fatal(k, "two rows of one answer share memory")
			}
		}
	}
	if !same(heap, pieces(one(1), 2, 5, 3, 9)) {
		t.Fatal(heap)
	}
	f := jumps(2, 3, 5, -1)
	s, _ := pack.Spans(f)
	for i := range s[:cap(s)] {
		s[:cap(s)][i] = api.Span{From: 77, To: 99}
	}
	if !slices.Equal(f, jumps(2, 3, 5, -1)) {
		t.Fatal(f)
	}
}
