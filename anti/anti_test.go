package anti_test

import (
	"math"
	"slices"
	"strings"
	"testing"

	"rescind/anti"
	"rescind/api"
	"rescind/edge"
	"rescind/eval"
	"rescind/expr"
	"rescind/parse"
	"rescind/row"
	"rescind/step"
	"rescind/value"
)

const (
	most     = math.MaxInt64
	least    = math.MinInt64
	before   = -1
	forever  = 1 << 50
	last     = forever - 1
	maxNet   = 1 << 20
	maxJumps = 1 << 10
	maxEdges = 1 << 12
	maxCols  = 8
	maxCode  = 64
)

// of is a row of numbers.
func of(l ...int) api.Row {
	var r api.Row
	for _, n := range l {
		r = append(r, value.Num(n))
	}
	return r
}

func text(s string) api.Value { return api.Value{Kind: api.Text, Text: s} }

// edges are those of a row, by their places and sizes, in turn.
func edges(r api.Row, l ...int) []api.Edge {
	var made []api.Edge
	for i := 0; i < len(l); i += 2 {
		made = append(made, api.Edge{Row: slices.Clone(r), At: l[i], Net: l[i+1]})
	}
	return made
}

// saw is the edges of a row that is there in turn and not, so many, each second instant from a place on.
func saw(r api.Row, count, from int) []api.Edge {
	var l []api.Edge
	for i := range count {
		l = append(l, edges(r, from+2*i, 1-2*(i%2))...)
	}
	return l
}

// wide are so many edges at one instant, each of another row of one number.
func wide(count int) []api.Edge {
	var l []api.Edge
	for i := range count {
		l = append(l, edges(of(i), 3, 1)...)
	}
	return l
}

// noRows are lists of values that are no rows.
func noRows() []api.Row {
	return []api.Row{{{}}, {value.Num(1), {}}, {{Kind: 3}}, {{Kind: api.Number, Text: "a"}}, {text(strings.Repeat("a", 65))}, slices.Repeat(of(0), maxCols+1), make(api.Row, 1)}
}

// none are lists of edges that are not in form.
func none() [][]api.Edge {
	l := [][]api.Edge{
		make([]api.Edge, 1),
		edges(of(1), 6, 0),
		edges(of(1), 6, maxNet+1),
		edges(of(1), 6, -maxNet-1),
		edges(of(1), 6, most),
		edges(of(1), 6, least),
		edges(of(1), -2, 1),
		edges(of(1), least, 1),
		edges(of(1), forever, 1),
		edges(of(1), 6, 1, forever, -1),
		edges(of(1), most, 1),
		edges(of(1), 8, 1, 6, 1),
		edges(of(1), 6, 1, 6, 1),
		slices.Concat(edges(of(2), 6, 1), edges(of(1), 6, 1)),
		slices.Concat(edges(of(1), 6, 1), edges(of(2), 6, 1), edges(of(1), 7, 1)),
		slices.Concat(edges(of(1), 6, 1), edges(of(2), 6, 0)),
		saw(of(1), maxJumps+1, 0),
		wide(maxEdges + 1),
		make([]api.Edge, 1<<16),
	}
	for _, r := range noRows() {
		l = append(l, edges(r, 6, 1), slices.Concat(edges(of(1), 6, 1), edges(r, 6, 1)))
	}
	return l
}

// read is an expression of the columns a, b, c and d, as it is written.
func read(s string) api.Expr {
	x, e := parse.Expr(s, api.Schema{{Name: "a", Kind: api.Number}, {Name: "b", Kind: api.Number}, {Name: "c", Kind: api.Number}, {Name: "d", Kind: api.Text}})
	if e != api.OK {
		panic(s)
	}
	return x
}

// noExprs are expressions that are not well formed, and not too long.
func noExprs() []api.Expr {
	return []api.Expr{nil, {}, {{}}, {{Code: 21}}, {{Code: api.Add}}, {{Code: api.Get, Num: maxCols}}, {{Code: api.Get, Num: -1}}, {{Code: api.Num}, {Code: api.Num}}, {{Code: api.Str, Text: strings.Repeat("a", 65)}}, {{Code: api.Num}, {Code: api.Neg, Num: 1}}}
}

// long is an expression of too many operations.
func long() api.Expr {
	return append(read("a"), slices.Repeat(api.Expr{{Code: api.Neg}}, maxCode)...)
}

// same holds edges against each other, without the program's help.
func same(a, b []api.Edge) bool {
	return slices.EqualFunc(a, b, func(x, y api.Edge) bool {
		return slices.Equal(x.Row, y.Row) && x.At == y.At && x.Net == y.Net
	})
}

// deep is a copy that shares nothing.
func deep(l []api.Edge) []api.Edge {
	var c []api.Edge
	for _, e := range l {
		c = append(c, api.Edge{Row: slices.Clone(e.Row), At: e.At, Net: e.Net})
	}
	return c
}

// expect holds an answer against another one.
func expect(t *testing.T, got []api.Edge, e api.Errno, want []api.Edge, wanted api.Errno) {
	t.Helper()
	if !same(got, want) || e != wanted {
		t.Fatalf("%d, error %d, and not %d, error %d: %v, %v", len(got), e, len(want), wanted, got[:min(len(got), 9)], want[:min(len(want), 9)])
	}
}

// rows are those that edges speak of, in their order.
func rows(l []api.Edge) []api.Row {
	var found []api.Row
	for _, e := range l {
		if len(found) == 0 || !slices.Equal(found[len(found)-1], e.Row) {
			found = append(found, e.Row)
		}
	}
	return found
}

// times is the value of a row's function at an instant.
func times(l []api.Edge, r api.Row, at int) int {
	n := 0
	for _, e := range l {
		if slices.Equal(e.Row, r) && e.At <= at {
			n += e.Net
		}
	}
	return n
}

// instants are those at which something changes.
func instants(lists ...[]api.Edge) []int {
	var found []int
	for _, e := range slices.Concat(lists...) {
		found = append(found, e.At)
	}
	slices.Sort(found)
	return slices.Compact(found)
}

// course is the edges of a row whose function is told instant by instant, and whether there is room for it.
func course(r api.Row, at []int, value func(t int) int) ([]api.Edge, api.Errno) {
	var made []api.Edge
	now := 0
	for _, t := range at {
		v := value(t)
		if v != now {
			made = append(made, edges(r, t, v-now)...)
		}
		if v-now > maxNet || v-now < -maxNet || len(made) > maxJumps {
			return nil, api.ErrFull
		}
		now = v
	}
	return made, api.OK
}

// jumps are those of edges, whatever their rows are.
func jumps(l []api.Edge) []api.Jump {
	var made []api.Jump
	for _, e := range l {
		made = append(made, api.Jump{At: e.At, Net: e.Net})
	}
	return made
}

// function is jumps by their places and sizes, in turn.
func function(l ...int) []api.Jump { return jumps(edges(nil, l...)) }

// expectJumps holds a function against another one.
func expectJumps(t *testing.T, got []api.Jump, e api.Errno, want []api.Jump, wanted api.Errno) {
	t.Helper()
	if !slices.Equal(got, want) || e != wanted {
		t.Fatalf("%d, error %d, and not %d, error %d: %v, %v", len(got), e, len(want), wanted, got[:min(len(got), 9)], want[:min(len(want), 9)])
	}
}

// found is the document's meaning of partners, of a row with its edges, a table and a well-formed expression, found row by row and instant by instant.
func found(r api.Row, own, l []api.Edge, x api.Expr) ([]api.Edge, api.Errno) {
	var partners []api.Row
	var sum []api.Edge
	at := instants(own, l)
	for _, b := range rows(l) {
		product, e := course(nil, at, func(t int) int { return times(own, r, t) * times(l, b, t) })
		if e != api.OK {
			return nil, e
		}
		if len(product) == 0 {
			continue
		}
		if len(r)+len(b) > maxCols {
			return nil, api.ErrLong
		}
		holds, e := eval.Holds(x, slices.Concat(r, b))
		if e == api.OK && holds {
			partners = append(partners, b)
			sum, e = course(nil, at, func(t int) int { return together(l, partners, t) })
		}
		if e != api.OK {
			return nil, e
		}
	}
	return sum, api.OK
}

// together is how often some rows are there at an instant.
func together(l []api.Edge, some []api.Row, at int) int {
	n := 0
	for _, r := range some {
		n += times(l, r, at)
	}
	return n
}

// left is the document's meaning of what has no partner.
func left(l, r []api.Edge, x api.Expr) ([]api.Edge, api.Errno) {
	var all []api.Edge
	for _, a := range rows(l) {
		own := slices.DeleteFunc(slices.Clone(l), func(e api.Edge) bool { return !slices.Equal(e.Row, a) })
		partners, e := found(a, own, r, x)
		if e != api.OK {
			return nil, e
		}
		alone, e := course(a, instants(own, r), func(t int) int {
			if times(partners, nil, t) != 0 {
				return 0
			}
			return times(l, a, t)
		})
		if e != api.OK {
			return nil, e
		}
		all = append(all, alone...)
	}
	if len(all) > maxEdges {
		return nil, api.ErrFull
	}
	return all, api.OK
}

// P32.1, P32.2: the document's examples.
func TestExamples(t *testing.T) {
	got, e := anti.Partners(of(5), function(0, 1, 6, -1), slices.Concat(edges(of(1), 2, 1, 9, -1), edges(of(3), 5, 1, 12, -1)), read("1"))
	expectJumps(t, got, e, function(2, 1, 5, 1, 9, -1, 12, -1), api.OK)
	alone, e := anti.Alone(edges(of(1), 2, 1, 9, -1), edges(of(1), 4, 1, 6, -1), read("a = b"))
	expect(t, alone, e, edges(of(1), 2, 1, 4, -1, 6, 1, 9, -1), api.OK)
}

// P32.1: a partner counts with all of its function, if it is there somewhere together with the row, and the expression holds; the row comes first.
func TestPartners(t *testing.T) {
	l := slices.Concat(edges(of(1), 2, 1, 9, -1), edges(of(2), before, 2, 4, -1), edges(of(3), 5, 1, 12, -1), edges(of(4), 20, 3, last, -1))
	tests := []struct {
		r    api.Row
		f    []api.Jump
		x    string
		want []api.Jump
	}{
		{of(2), nil, "1", nil},
		{of(2), nil, "1 / 0", nil},
		{of(2), function(0, 1), "0", nil},
		{of(2), function(0, 1), "1", function(before, 2, 2, 1, 4, -1, 5, 1, 9, -1, 12, -1, 20, 3, last, -1)},
		{of(2), function(0, 1), "- 8", function(before, 2, 2, 1, 4, -1, 5, 1, 9, -1, 12, -1, 20, 3, last, -1)},
		{of(2), function(0, -1), "1", function(before, 2, 2, 1, 4, -1, 5, 1, 9, -1, 12, -1, 20, 3, last, -1)},
		{of(2), function(0, 1, 2, -1), "1", function(before, 2, 4, -1)},
		{of(2), function(0, 1, 3, -1), "1", function(before, 2, 2, 1, 4, -1, 9, -1)},
		{of(2), function(0, 1, 5, -1), "1", function(before, 2, 2, 1, 4, -1, 9, -1)},
		{of(2), function(before, 1, 0, -1), "1", function(before, 2, 4, -1)},
		{of(2), function(last, 1), "1", function(before, 2, 4, -1, 20, 3, last, -1)},
		{of(2), function(0, 1), "a = b", function(before, 2, 4, -1)},
		{of(2), function(0, 1), "a < b", function(5, 1, 12, -1, 20, 3, last, -1)},
		{of(2), function(9, 1, 20, -1), "a < b", function(5, 1, 12, -1)},
		{of(2), function(12, 1, 20, -1), "a < b", nil},
		{of(2), function(3, 1, 4, -1, 30, -1), "a <> b", function(2, 1, 9, -1, 20, 3, last, -1)},
		{of(2, 3), function(0, 1), "b = c", function(5, 1, 12, -1)},
		{of(2, 3), function(0, 1), "a = c", function(before, 2, 4, -1)},
		{nil, function(0, 1), "a = 1", function(2, 1, 9, -1)},
		{of(1, 2, 3, 4, 5, 6, 7), function(0, 1, 3, -1), "1", function(before, 2, 2, 1, 4, -1, 9, -1)},
		{of(1, 2, 3, 4, 5, 6, 7, 8), nil, "1", nil},
	}
	for i, x := range tests {
		got, e := anti.Partners(x.r, x.f, l, read(x.x))
		if !slices.Equal(got, x.want) || e != api.OK {
			t.Error(i, got, e, x.want)
		}
		want, e := found(x.r, edge.Build(x.r, x.f), l, read(x.x))
		expectJumps(t, x.want, api.OK, jumps(want), e)
		got, e = anti.Partners(x.r, x.f, nil, read(x.x))
		expectJumps(t, got, e, nil, api.OK)
	}
}

// P32.1: partners whose functions add up to nought at an instant, to none, or to as many jumps as there is room for.
func TestPartnerSums(t *testing.T) {
	tests := []struct {
		l    []api.Edge
		want []api.Jump
		e    api.Errno
	}{
		{slices.Concat(edges(of(1), 2, 1, 5, -1), edges(of(2), 5, 1, 9, -1)), function(2, 1, 9, -1), api.OK},
		{slices.Concat(edges(of(1), 2, maxNet), edges(of(2), 3, maxNet)), function(2, maxNet, 3, maxNet), api.OK},
		{slices.Concat(edges(of(1), 2, maxNet), edges(of(2), 2, 1)), nil, api.ErrFull},
		{slices.Concat(edges(of(1), 0, maxNet, 3, -maxNet), edges(of(2), 0, 1, 3, -1)), nil, api.ErrFull},
		{slices.Concat(edges(of(1), 3, maxNet), edges(of(2), 0, maxNet, 3, -maxNet), edges(of(3), 3, maxNet)), function(0, maxNet, 3, maxNet), api.OK},
		{slices.Concat(edges(of(1), 3, maxNet), edges(of(2), 3, maxNet), edges(of(3), 0, maxNet, 3, -maxNet)), nil, api.ErrFull}, // what they add up to has room, but not the first two
		{slices.Concat(saw(of(1), maxJumps, 0), edges(of(2), 0, 1)), append(function(0, 2), jumps(saw(nil, maxJumps, 0))[1:]...), api.OK},
		{slices.Concat(saw(of(1), maxJumps, 0), edges(of(2), 1, 1)), nil, api.ErrFull},
		{slices.Concat(saw(of(1), maxJumps/2, 0), saw(of(2), maxJumps/2, maxJumps)), jumps(saw(nil, maxJumps, 0)), api.OK},
		{slices.Concat(saw(of(1), maxJumps/2, 0), saw(of(2), maxJumps/2+1, maxJumps)), nil, api.ErrFull},
		{slices.Concat(saw(of(1), maxJumps/2, 1), saw(of(2), maxJumps/2+2, 0), edges(of(3), 0, 1)), nil, api.ErrFull},
		{wide(maxEdges), function(3, maxEdges), api.OK},
	}
	for i, x := range tests {
		got, e := anti.Partners(of(7), function(0, 1), x.l, read("1"))
		if !slices.Equal(got, x.want) || e != x.e {
			t.Error(i, len(got), e, len(x.want), x.e)
		}
		if len(x.l) < maxEdges {
			want, wanted := found(of(7), edges(of(7), 0, 1), x.l, read("1"))
			expectJumps(t, x.want, x.e, jumps(want), wanted)
		}
	}
}

// noFunctions are jumps that are no step function.
func noFunctions() [][]api.Jump {
	return [][]api.Jump{{{}}, function(2, 0), function(2, maxNet+1), function(2, -maxNet-1), function(2, least), function(-2, 1), function(least, 1), function(forever, 1), function(most, 1), function(3, 1, 2, -1), function(3, 1, 3, 1), function(3, 1, 4, 0), jumps(saw(nil, maxJumps+1, 0))}
}

// below are edges in form that are no table.
func below() [][]api.Edge {
	return [][]api.Edge{edges(of(1), 3, -1), edges(of(1), before, -1), edges(of(1), before, -1, 0, 1), edges(of(1), 2, 1, 4, -2), edges(of(1), last, -1), slices.Concat(edges(of(1), 2, 1), edges(of(2), 3, -1)), saw(of(1), 4, 0)[1:]}
}

// P32.1: the form of the row, of its function and of the edges, whether these are a table, and then the form of the expression.
func TestPartnerFormErrors(t *testing.T) {
	xs := append(noExprs(), long(), read("1"), read("1 / 0"))
	for _, x := range xs {
		for _, l := range append(below(), nil, edges(of(1), 2, 1), make([]api.Edge, 1)) {
			for _, r := range noRows() {
				got, e := anti.Partners(r, function(2, 1), l, x)
				expectJumps(t, got, e, nil, api.ErrArg)
				got, e = anti.Partners(r, nil, l, x)
				expectJumps(t, got, e, nil, api.ErrArg)
			}
			for _, f := range noFunctions() {
				got, e := anti.Partners(of(1), f, l, x)
				expectJumps(t, got, e, nil, api.ErrArg)
			}
		}
		for _, l := range none() {
			got, e := anti.Partners(of(1), function(2, 1), l, x)
			expectJumps(t, got, e, nil, api.ErrArg)
			got, e = anti.Partners(nil, nil, l, x)
			expectJumps(t, got, e, nil, api.ErrArg)
		}
		for _, l := range below() {
			got, e := anti.Partners(of(1), function(2, 1), l, x)
			expectJumps(t, got, e, nil, api.ErrBelow)
			got, e = anti.Partners(nil, nil, l, x)
			expectJumps(t, got, e, nil, api.ErrBelow)
		}
	}
	for _, l := range [][]api.Edge{nil, {}, edges(of(1), 2, 1), edges(of(1, 2, 3, 4, 5, 6, 7, 8), 2, maxNet)} {
		for _, f := range [][]api.Jump{nil, {}, function(2, maxNet)} {
			for _, x := range noExprs() {
				got, e := anti.Partners(of(1), f, l, x)
				expectJumps(t, got, e, nil, api.ErrExpr)
			}
			got, e := anti.Partners(of(1), f, l, long())
			expectJumps(t, got, e, nil, api.ErrLong)
		}
	}
}

// P32.1: the first row, in order, that has an error, with its first one; one that is never there together with the row has none.
func TestPartnerErrors(t *testing.T) {
	one, two, nought, great := edges(of(1), 6, 1), edges(of(2), 6, 1), edges(of(0), 6, 1), edges(of(1), 6, maxNet)
	letter, eight := edges(api.Row{text("a")}, 6, 1), edges(of(1, 2, 3, 4, 5, 6, 7, 8), 6, 1)
	always := function(0, 1)
	tests := []struct {
		f []api.Jump
		l []api.Edge
		x string
		e api.Errno
	}{
		{always, nil, "1 / 0", api.OK},
		{nil, one, "1 / 0", api.OK},
		{always, one, "1 / 0", api.ErrZero},
		{always, one, "'a'", api.ErrKind},
		{always, one, "c", api.ErrRange},
		{always, letter, "a + b", api.ErrKind},
		{always, edges(of(most), 6, 1), "a + b", api.ErrOver},
		{always, edges(api.Row{value.Num(1), value.Num(1), text(strings.Repeat("a", 64))}, 6, 1), "d ++ d = d", api.ErrLong},
		{always, eight, "0", api.ErrLong},
		{always, eight, "1 / 0", api.ErrLong},
		{function(0, 1, 6, -1), nought, "1 / b", api.OK},
		{function(0, 1, 6, -1), eight, "1", api.OK},
		{function(0, 1, 7, -1), nought, "1 / b", api.ErrZero},
		{function(before, 1, 0, -1), edges(of(0), before, 1), "1 / b", api.ErrZero},
		{function(last, 1), nought, "1 / b", api.ErrZero},
		{function(0, -1), nought, "1 / b", api.ErrZero},
		{function(0, 2), great, "1 / 0", api.ErrFull},
		{function(0, 2), great, "0", api.ErrFull},
		{function(0, -2), great, "0", api.ErrFull},
		{function(0, 2), edges(of(1, 2, 3, 4, 5, 6, 7, 8), 6, maxNet), "1", api.ErrFull},
		{function(0, 2, 6, -2), great, "1 / 0", api.OK},
		{function(0, 2, 6, -1), great, "1 / 0", api.ErrZero},
		{always, slices.Concat(nought, great), "1 / b", api.ErrZero},
		{function(0, 2), slices.Concat(nought, great), "1 / b", api.ErrZero},
		{function(0, 2), slices.Concat(nought, great), "1 / (b - 1)", api.ErrFull},
		{always, slices.Concat(one, two), "1 / (2 - b)", api.ErrZero},
		{always, slices.Concat(one, eight), "1", api.ErrLong},
		{always, slices.Concat(nought, eight), "1 / b", api.ErrZero},
		{always, slices.Concat(one, eight, two), "1 / (b - 2)", api.ErrLong},
		{always, slices.Concat(two, letter), "1 / b", api.ErrKind},
		{always, slices.Concat(nought, letter), "1 / b", api.ErrZero},
		{always, slices.Concat(great, two), "1", api.ErrFull},
		{always, slices.Concat(great, two), "b = 2", api.OK},
		{always, slices.Concat(great, two), "0", api.OK},
		{always, slices.Concat(great, two), "1 / (b - 2)", api.ErrZero},
		{always, slices.Concat(great, two, edges(of(3), 6, 1)), "b / (b - 3) - b", api.ErrFull},
		{always, slices.Concat(great, two, letter), "b", api.ErrFull},
		{always, slices.Concat(great, letter, edges(api.Row{text("b")}, 6, 1)), "b < 'b'", api.ErrKind},
		{always, slices.Concat(great, edges(of(2), 0, 1, 6, -1), edges(of(3), 6, 1)), "1", api.OK},
	}
	for i, x := range tests {
		got, e := anti.Partners(of(7), x.f, x.l, read(x.x))
		if e != x.e || e != api.OK && len(got) > 0 {
			t.Error(i, got, e, x.e)
		}
		if _, e := found(of(7), edge.Build(of(7), x.f), x.l, read(x.x)); e != x.e {
			t.Error(i, "meant", e, x.e)
		}
	}
}

// P32.2: each row has its own function where it has no partner, in order.
func TestAlone(t *testing.T) {
	l := slices.Concat(edges(nil, 3, 1), edges(of(1), before, 2, 6, -1), edges(of(1, 5), 2, 1, 9, -1), edges(of(2), 4, 3))
	r := slices.Concat(edges(of(1), 5, 1, 7, -1), edges(of(2), 0, 1, 2, -1), edges(of(3), 6, 2, 8, -2))
	tests := []struct {
		l, r []api.Edge
		x    string
		want []api.Edge
	}{
		{l, nil, "1", l},
		{l, nil, "1 / 0", l},
		{nil, r, "1", nil},
		{nil, nil, "1", nil},
		{l, r, "0", l},
		{l, r, "1", slices.Concat(edges(nil, 3, 1, 5, -1, 8, 1), edges(of(1), before, 2, 0, -2, 2, 2, 5, -2, 8, 1), edges(of(1, 5), 2, 1, 5, -1, 8, 1, 9, -1), edges(of(2), 4, 3, 5, -3, 8, 3))},
		{l[1:], r, "a = b", slices.Concat(edges(of(1), before, 2, 5, -2, 7, 1), edges(of(1, 5), 2, 1, 9, -1), edges(of(2), 4, 3))},
		{l[1:3], r, "a <> b", edges(of(1), before, 2, 0, -2, 2, 2, 6, -2, 8, 1)},
		{l[1:3], r, "b = 2", edges(of(1), before, 2, 0, -2, 2, 2, 6, -1)},
		{edges(of(1), 2, 1, 4, -1), edges(of(1), 4, 1), "1", edges(of(1), 2, 1, 4, -1)},
		{edges(of(1), 2, 1, 4, -1), edges(of(1), 0, 1, 2, -1), "1", edges(of(1), 2, 1, 4, -1)},
		{edges(of(1), 2, 1, 4, -1), edges(of(1), 2, 1, 4, -1), "1", nil},
		{edges(of(1), 2, 5, 4, -1), edges(of(1), before, 1), "1", nil},
		{edges(of(1), 2, 1, 4, -1, 6, 1), edges(of(1), 5, 1, 7, -1), "1", edges(of(1), 2, 1, 4, -1, 7, 1)},
		{edges(of(1), before, 1), edges(of(1), before, 1, 0, -1), "1", edges(of(1), 0, 1)},
		{edges(of(1), before, 1), edges(of(1), last, 1), "1", edges(of(1), before, 1, last, -1)},
		{edges(of(1), before, 1), slices.Concat(edges(of(1), 3, 1, 5, -1), edges(of(2), 5, 1, 7, -1)), "1", edges(of(1), before, 1, 3, -1, 7, 1)},
		{edges(of(1), 0, maxNet), edges(of(1), 3, 1, 5, -1), "1", edges(of(1), 0, maxNet, 3, -maxNet, 5, maxNet)},
		{edges(nil, 0, 1), edges(nil, 3, 1), "1", edges(nil, 0, 1, 3, -1)},
		{edges(of(1, 2, 3, 4, 5, 6, 7, 8), 0, 1), edges(nil, 3, 1), "1", edges(of(1, 2, 3, 4, 5, 6, 7, 8), 0, 1, 3, -1)},
	}
	for i, x := range tests {
		got, e := anti.Alone(x.l, x.r, read(x.x))
		if !same(got, x.want) || e != api.OK {
			t.Error(i, got, e, x.want)
		}
		want, e := left(x.l, x.r, read(x.x))
		expect(t, x.want, api.OK, want, e)
	}
}

// P32.2: the form of both lists, whether both are tables, and then the form of the expression.
func TestAloneFormErrors(t *testing.T) {
	xs := append(noExprs(), long(), read("1"), read("1 / 0"))
	good := [][]api.Edge{nil, {}, edges(of(1), 6, 1), edges(of(1, 2, 3, 4, 5, 6, 7, 8), 6, maxNet)}
	refuse := func(l, r []api.Edge, x api.Expr, want api.Errno) {
		t.Helper()
		got, e := anti.Alone(l, r, x)
		expect(t, got, e, nil, want)
	}
	for _, x := range xs {
		for _, l := range none() {
			for _, other := range append(below(), l, nil, edges(of(1), 6, 1)) {
				refuse(l, other, x, api.ErrArg)
				refuse(other, l, x, api.ErrArg)
			}
		}
		for _, l := range below() {
			for _, other := range append(good, l) {
				refuse(l, other, x, api.ErrBelow)
				refuse(other, l, x, api.ErrBelow)
			}
		}
	}
	for _, l := range good {
		for _, r := range good {
			for _, x := range noExprs() {
				refuse(l, r, x, api.ErrExpr)
			}
			refuse(l, r, long(), api.ErrLong)
		}
	}
}

// P32.2: the first row, in order, that has an error, of its partners or of what is left of it.
func TestAloneErrors(t *testing.T) {
	one, nought, great, eight := edges(of(1), 6, 1), edges(of(0), 6, 1), edges(of(1), 6, maxNet), edges(of(1, 2, 3, 4, 5, 6, 7, 8), 6, 1)
	steep, early := edges(of(1), 0, maxNet, 4, maxNet), edges(of(5), 0, 1, 4, -1) // what is left begins with more than a jump may be
	tests := []struct {
		l, r []api.Edge
		x    string
		e    api.Errno
	}{
		{one, one, "1 / 0", api.ErrZero},
		{one, one, "'a'", api.ErrKind},
		{one, one, "c", api.ErrRange},
		{one, eight, "1", api.ErrLong},
		{eight, one, "1", api.ErrLong},
		{great, edges(of(2), 6, 2), "1", api.ErrFull},
		{edges(of(2), 6, 2), great, "0", api.ErrFull},
		{one, slices.Concat(great, edges(of(2), 6, 1)), "1", api.ErrFull},
		{one, edges(of(0), 0, 1, 6, -1), "1 / b", api.OK},
		{slices.Concat(nought, one), one, "1 / a", api.ErrZero},
		{slices.Concat(nought, one), one, "1 / (1 - a)", api.ErrZero},
		{slices.Concat(nought, eight), one, "1 / a", api.ErrZero},
		{slices.Concat(one, eight), one, "1 / (2 - a)", api.ErrLong},
		{slices.Concat(one, edges(of(2), 6, 1)), slices.Concat(great, edges(of(2), 6, 1)), "1 / (2 - a)", api.ErrFull},
		{slices.Concat(nought, one), slices.Concat(great, edges(of(2), 6, 1)), "1 / a", api.ErrZero},
		{steep, early, "1", api.ErrFull},
		{steep, early, "0", api.OK},
		{steep, edges(of(5), 0, 1, 3, -1), "1", api.OK},
		{slices.Concat(steep, edges(of(2), 0, 1)), early, "0 / (a - 2)", api.ErrZero},
		{slices.Concat(steep, edges(of(2), 0, 1)), early, "1 / (2 - a)", api.ErrFull},
		{slices.Concat(edges(of(0), 0, 1), steep), early, "1 / a", api.ErrZero},
		{edges(of(1), 0, 1), saw(of(5), maxJumps-1, 1), "1", api.OK},
		{edges(of(1), 0, 1), saw(of(5), maxJumps, 1), "1", api.ErrFull},
		{edges(of(1), 1, 1), saw(of(5), maxJumps, 1), "1", api.OK},
		{slices.Concat(edges(of(1), 0, 1), edges(of(2), 0, 1)), saw(of(5), maxJumps, 1), "1 / (2 - a)", api.ErrFull},
		{slices.Concat(edges(of(1), 0, 1), edges(of(2), 0, 1)), saw(of(5), maxJumps, 1), "1 / (a - 1)", api.ErrZero},
	}
	for i, x := range tests {
		got, e := anti.Alone(x.l, x.r, read(x.x))
		if e != x.e || e != api.OK && len(got) > 0 {
			t.Error(i, got, e, x.e)
		}
		if _, e := left(x.l, x.r, read(x.x)); e != x.e {
			t.Error(i, "meant", e, x.e)
		}
	}
}

// P32.2: as many edges as there is room for, and one more; an error of the last row is told ahead of that.
func TestRoom(t *testing.T) {
	short := edges(of(7), 4, 1)
	first := func(count int) []api.Edge { // they are there ahead of all partners
		var l []api.Edge
		for i := range count {
			l = append(l, edges(of(i), 0, 1)...)
		}
		return l
	}
	tests := []struct {
		l, r  []api.Edge
		x     string
		count int
		e     api.Errno
	}{
		{wide(maxEdges), nil, "1", maxEdges, api.OK},
		{wide(maxEdges), short, "0", maxEdges, api.OK},
		{wide(maxEdges), edges(of(7), 3, 1), "1", 0, api.OK},
		{wide(maxEdges), short, "a < 0", maxEdges, api.OK},
		{wide(maxEdges), short, "a = 0", 0, api.ErrFull},
		{wide(maxEdges), short, "1", 0, api.ErrFull},
		{wide(maxEdges), short, "1 / (a - 4095)", 0, api.ErrZero},
		{wide(maxEdges / 2), short, "1", maxEdges, api.OK},
		{wide(maxEdges/2 + 1), short, "1", 0, api.ErrFull},
		{wide(maxEdges - 1), short, "a = 0", maxEdges, api.OK},
		{append(wide(maxEdges-1), edges(of(maxEdges, 2, 3, 4, 5, 6, 7, 8), 4, 1)...), short, "1", 0, api.ErrLong},
		{first(4), saw(of(7), maxJumps-1, 1), "1", maxEdges, api.OK},
		{first(5), saw(of(7), maxJumps-1, 1), "1", 0, api.ErrFull},
		{first(5), saw(of(7), maxJumps-1, 1), "a < 4", 0, api.ErrFull},
		{first(5), saw(of(7), maxJumps-1, 1), "a < 3", 3*maxJumps + 2, api.OK},
		{first(5), saw(of(7), maxJumps-1, 1), "1 / (a - 4)", 0, api.ErrZero},
		{first(1000), saw(of(7), maxJumps-1, 1), "1", 0, api.ErrFull},
		{first(1000), saw(of(7), maxJumps-1, 1), "1 / (a - 999)", 0, api.ErrZero},
	}
	for i, x := range tests {
		got, e := anti.Alone(x.l, x.r, read(x.x))
		if len(got) != x.count || e != x.e || !edge.Table(got) {
			t.Error(i, len(got), e, x.count, x.e)
		}
	}
}

// dice are numbers without a pattern, the same each time.
type dice uint64

func (d *dice) roll(n int) int {
	*d = *d*6364136223846793005 + 1442695040888963407
	return int(uint64(*d)>>33) % n
}

// row is of so many small numbers.
func (d *dice) row(cols int) api.Row {
	var r api.Row
	for range cols {
		r = append(r, value.Num(d.roll(3)))
	}
	return r
}

// table is of a few rows with that many columns, or with up to two if that is -1, at a few instants.
func (d *dice) table(cols int) []api.Edge {
	var l []api.Edge
	for range d.roll(8) {
		r := d.row(max(cols, 0))
		if cols < 0 {
			r = d.row(d.roll(3))
		}
		from, net := d.roll(7)-1, 1+d.roll(3)
		l = append(l, edges(r, from, net)...)
		if d.roll(5) > 0 {
			l = append(l, edges(r, from+1+d.roll(5), -net)...)
		}
	}
	made, e := edge.Norm(l...)
	if e != api.OK || !edge.Table(made) {
		panic(e)
	}
	return made
}

// function is of a few jumps at a few instants.
func (d *dice) function() []api.Jump {
	var f []api.Jump
	for range d.roll(5) {
		f = append(f, api.Jump{At: d.roll(8) - 1, Net: d.roll(5) - 2})
	}
	made, e := step.Norm(f...)
	if e != api.OK {
		panic(e)
	}
	return made
}

// sure are expressions that have a number for rows of three small numbers, and unsure ones have one for some rows.
func sure() []api.Expr {
	var xs []api.Expr
	for _, s := range []string{"1", "a", "a = b", "b = c", "a < c", "a + b - c", "not b", "a * c", "0", "a = 1 or b = c"} {
		xs = append(xs, read(s))
	}
	return xs
}

func unsure() []api.Expr {
	var xs []api.Expr
	for _, s := range []string{"1", "0", "a < 2", "b", "1 / a", "1 / (a - b)", "a % c", "9223372036854775806 + a + b", "c", "1 / (3 - a - b - c)"} {
		xs = append(xs, read(s))
	}
	return xs
}

// P32.1, P32.2: tables of a few rows, held against the meaning.
func TestMixed(t *testing.T) {
	d := dice(321)
	seen := map[api.Errno]int{}
	for range 10000 {
		l, r, x := d.table(-1), d.table(-1), unsure()[d.roll(len(unsure()))]
		want, wanted := left(l, r, x)
		got, e := anti.Alone(l, r, x)
		expect(t, got, e, want, wanted)
		if len(got) > 0 && !same(got, l) || e != api.OK {
			seen[e]++
		}
		one, f := d.row(d.roll(3)), d.function()
		sum, wanted := found(one, edge.Build(one, f), r, x)
		partners, e := anti.Partners(one, f, r, x)
		expectJumps(t, partners, e, jumps(sum), wanted)
		if len(partners) > 0 || e != api.OK {
			seen[e]++
		}
	}
	for _, e := range []api.Errno{api.OK, api.ErrZero, api.ErrOver, api.ErrRange} {
		if seen[e] < 50 {
			t.Fatal(seen)
		}
	}
}

// hasPartner tells whether a row has one at an instant, row by row of the other table, if the expression has a number for all.
func hasPartner(a api.Row, r []api.Edge, x api.Expr, at int) bool {
	return slices.ContainsFunc(rows(r), func(b api.Row) bool {
		holds, _ := eval.Holds(x, slices.Concat(a, b))
		return holds && times(r, b, at) > 0
	})
}

// P32.3: at each instant a row is there as often as ever if it has no partner then, and not at all if it has one.
func TestTicks(t *testing.T) {
	d := dice(323)
	for range 3000 {
		l, r, x := d.table(2), d.table(1), sure()[d.roll(len(sure()))]
		got, e := anti.Alone(l, r, x)
		if e != api.OK || !edge.Table(got) {
			t.Fatal(got, e)
		}
		for _, a := range append(rows(l), rows(got)...) {
			for at := before; at < 15; at++ {
				want := times(l, a, at)
				if hasPartner(a, r, x, at) {
					want = 0
				}
				if n := times(got, a, at); n != want {
					t.Fatal(a, at, n, want)
				}
			}
		}
	}
}

// P32.4: what is ahead of a place is made of what is ahead of it on both sides.
func TestAhead(t *testing.T) {
	d := dice(324)
	for range 3000 {
		l, r, x := d.table(2), d.table(1), sure()[d.roll(len(sure()))]
		whole, e := anti.Alone(l, r, x)
		if e != api.OK {
			t.Fatal(e)
		}
		for at := before - 1; at < 15; at++ {
			first, _ := edge.Ahead(l, at)
			second, _ := edge.Ahead(r, at)
			want, e := edge.Ahead(whole, at)
			got, f := anti.Alone(first, second, x)
			expect(t, got, f, want, e)
		}
	}
}

// anything is edges of which some are not in form.
func (d *dice) anything() []api.Edge {
	rows := []api.Row{nil, of(1), of(0, 0), of(least), {text("a")}, of(1, 2, 3, 4, 5), of(1, 2, 3, 4, 5, 6, 7, 8)}
	places := []int{before, 0, 1, 2, 3, last}
	nets := []int{-maxNet, -1, 1, 1, 2, maxNet}
	if d.roll(5) == 0 {
		rows = append(rows, noRows()...)
		places = append(places, least, -2, forever, most)
		nets = append(nets, least, -maxNet-1, 0, maxNet+1, most)
	}
	var l []api.Edge
	for range d.roll(4) {
		l = append(l, edges(rows[d.roll(len(rows))], places[d.roll(len(places))], nets[d.roll(len(nets))])...)
	}
	if made, e := edge.Norm(l...); e == api.OK && d.roll(5) > 0 {
		return made
	}
	return l
}

// P1, P2: any rows, functions, edges and expressions are answered: with what is in form, or with an error.
func TestAnything(t *testing.T) {
	d := dice(325)
	words := api.Expr{{Code: api.Get}, {Code: api.Get, Num: 1}, {Code: api.Num, Num: 1}, {Code: api.Str, Text: "a"}, {Code: api.Neg}, {Code: api.Len}, {Code: api.Quo}, {Code: api.Lt}, {Code: api.Get, Num: 8}, {}, {Code: 21}}
	answered := 0
	for range 200000 {
		l, r := d.anything(), d.anything()
		var x api.Expr
		for range 1 + d.roll(3) {
			x = append(x, words[d.roll(len(words))])
		}
		got, e := anti.Alone(l, r, x)
		if !edge.Table(got) || e != api.OK && len(got) > 0 || (e == api.ErrArg) != (!edge.May(l) || !edge.May(r)) {
			t.Fatal(l, r, x, got, e)
		}
		if bad := expr.Form(x); e != api.ErrArg && e != api.ErrBelow && bad != api.OK && e != bad {
			t.Fatal(x, e)
		}
		var own api.Row
		if len(l) > 0 {
			own = l[0].Row
		}
		sum, f := anti.Partners(own, jumps(l), r, x)
		if !step.May(sum) || f != api.OK && len(sum) > 0 || (f == api.ErrArg) != (!row.May(own) || !step.May(jumps(l)) || !edge.May(r)) {
			t.Fatal(l, r, x, sum, f)
		}
		if e == api.OK && len(got) > 0 && f == api.OK && len(sum) > 0 {
			answered++
		}
	}
	if answered < 100 {
		t.Fatal("too few:", answered)
	}
}

// overwrite fills, one edge after the other, all that it has room for, and looks whether the others stay; and then all that the list has room for.
func overwrite(t *testing.T, l []api.Edge) {
	t.Helper()
	for i := range l {
		others := deep(l[i+1:])
		whole := l[i].Row[:cap(l[i].Row)]
		for k := range whole {
			whole[k] = value.Num(99)
		}
		if !same(l[i+1:], others) {
			t.Fatal("two rows of one answer share memory")
		}
	}
	whole := l[:cap(l)]
	for i := range whole {
		whole[i] = api.Edge{Row: of(99), At: 77, Net: 99}
	}
}

// P3: what is told shares no memory with what it is of, nor its rows with each other, and nothing is written behind an argument.
func TestNew(t *testing.T) {
	whole := slices.Concat(edges(nil, 2, 1, 5, -1, 7, 2), edges(of(2, 7), 1, 1, 3, 1), edges(of(5, 8), 2, 1))
	second := slices.Concat(edges(nil, 9, 1), edges(of(1, 7), 3, 1, 6, -1), edges(of(3, 1), 4, 1, 5, -1))
	l, r, x := deep(whole), deep(second), append(make(api.Expr, 0, 9), read("a = a")...)[:1]
	for _, a := range [][]api.Edge{l[:4], l[:0], l, r} {
		for _, b := range [][]api.Edge{r[:3], r[:2], r[:0], l} {
			for _, y := range []api.Expr{read("1"), read("0")} {
				got, _ := anti.Alone(a, b, y)
				other, _ := anti.Alone(a, b, y)
				kept := deep(other)
				overwrite(t, got)
				if !same(l, whole) || !same(r, second) || !same(other, kept) {
					t.Fatal("shared")
				}
			}
		}
	}
	if got, e := anti.Alone(l[3:], r[1:], x); e != api.OK || len(got) == 0 || x[:3][1].Code != api.Get || x[:3][2].Code != api.Eq {
		t.Fatal(got, e, x[:3])
	}
	f := append(make([]api.Jump, 0, 9), function(0, 1, 3, 1, 8, -2)...)
	for _, own := range [][]api.Jump{f[:1], f[:2], f} {
		for _, b := range [][]api.Edge{r[:1], r[1:3], r, l} {
			got, e := anti.Partners(of(1, 2, 3), own, b, read("1"))
			other, _ := anti.Partners(of(1, 2, 3), own, b, read("1"))
			kept := slices.Clone(other)
			got = got[:cap(got)]
			for i := range got {
				got[i] = api.Jump{At: 77, Net: 99}
			}
			if e != api.OK || !slices.Equal(other, kept) || !same(l, whole) || !same(r, second) || !slices.Equal(f, function(0, 1, 3, 1, 8, -2)) || slices.Max(spare(f)) != 0 {
				t.Fatal("shared", e)
			}
		}
	}
}

// spare is what is behind a function's jumps, as far as there is room.
func spare(f []api.Jump) []int {
	l := []int{0}
	for _, j := range f[len(f):cap(f)] {
		l = append(l, max(j.At, -j.At), max(j.Net, -j.Net))
	}
	return l
}
