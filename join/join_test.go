package join_test

import (
	"math"
	"slices"
	"strings"
	"testing"

	"rescind/api"
	"rescind/bin"
	"rescind/edge"
	"rescind/eval"
	"rescind/expr"
	"rescind/join"
	"rescind/parse"
	"rescind/row"
	"rescind/value"
)

const (
	most     = math.MaxInt64
	least    = math.MinInt64
	before   = -1
	forever  = 1 << 50
	last     = forever - 1
	maxNet   = 1 << 20
	maxJumps = 1 << 10
	maxEdges = 1 << 12
	maxCols  = 8
	maxCode  = 64
)

// of is a row of numbers.
func of(l ...int) api.Row {
	var r api.Row
	for _, n := range l {
		r = append(r, value.Num(n))
	}
	return r
}

func text(s string) api.Value { return api.Value{Kind: api.Text, Text: s} }

// edges are those of a row, by their places and sizes, in turn.
func edges(r api.Row, l ...int) []api.Edge {
	var made []api.Edge
	for i := 0; i < len(l); i += 2 {
		made = append(made, api.Edge{Row: slices.Clone(r), At: l[i], Net: l[i+1]})
	}
	return made
}

// saw is the edges of a row that is there in turn and not, so many, each second instant from a place on.
func saw(r api.Row, count, from int) []api.Edge {
	var l []api.Edge
	for i := range count {
		l = append(l, edges(r, from+2*i, 1-2*(i%2))...)
	}
	return l
}

// wide are so many edges at one instant, each of another row of one number.
func wide(count int) []api.Edge {
	var l []api.Edge
	for i := range count {
		l = append(l, edges(of(i), 3, 1)...)
	}
	return l
}

// noRows are lists of values that are no rows.
func noRows() []api.Row {
	return []api.Row{{{}}, {value.Num(1), {}}, {{Kind: 3}}, {{Kind: api.Number, Text: "a"}}, {text(strings.Repeat("a", 65))}, slices.Repeat(of(0), maxCols+1), make(api.Row, 1)}
}

// none are lists of edges that are not in form.
func none() [][]api.Edge {
	l := [][]api.Edge{
		make([]api.Edge, 1),
		edges(of(1), 6, 0),
		edges(of(1), 6, maxNet+1),
		edges(of(1), 6, -maxNet-1),
		edges(of(1), 6, most),
		edges(of(1), 6, least),
		edges(of(1), -2, 1),
		edges(of(1), least, 1),
		edges(of(1), forever, 1),
		edges(of(1), 6, 1, forever, -1),
		edges(of(1), most, 1),
		edges(of(1), 8, 1, 6, 1),
		edges(of(1), 6, 1, 6, 1),
		slices.Concat(edges(of(2), 6, 1), edges(of(1), 6, 1)),
		slices.Concat(edges(of(1), 6, 1), edges(of(2), 6, 1), edges(of(1), 7, 1)),
		slices.Concat(edges(of(1), 6, 1), edges(of(2), 6, 0)),
		saw(of(1), maxJumps+1, 0),
		wide(maxEdges + 1),
		make([]api.Edge, 1<<16),
	}
	for _, r := range noRows() {
		l = append(l, edges(r, 6, 1), slices.Concat(edges(of(1), 6, 1), edges(r, 6, 1)))
	}
	return l
}

// read is an expression of the columns a, b, c and d, as it is written.
func read(s string) api.Expr {
	x, e := parse.Expr(s, api.Schema{{Name: "a", Kind: api.Number}, {Name: "b", Kind: api.Number}, {Name: "c", Kind: api.Number}, {Name: "d", Kind: api.Text}})
	if e != api.OK {
		panic(s)
	}
	return x
}

// noExprs are expressions that are not well formed, and not too long.
func noExprs() []api.Expr {
	return []api.Expr{nil, {}, {{}}, {{Code: 21}}, {{Code: api.Add}}, {{Code: api.Get, Num: maxCols}}, {{Code: api.Get, Num: -1}}, {{Code: api.Num}, {Code: api.Num}}, {{Code: api.Str, Text: strings.Repeat("a", 65)}}, {{Code: api.Num}, {Code: api.Neg, Num: 1}}}
}

// long is an expression of too many operations.
func long() api.Expr {
	return append(read("a"), slices.Repeat(api.Expr{{Code: api.Neg}}, maxCode)...)
}

// same holds edges against each other, without the program's help.
func same(a, b []api.Edge) bool {
	return slices.EqualFunc(a, b, func(x, y api.Edge) bool {
		return slices.Equal(x.Row, y.Row) && x.At == y.At && x.Net == y.Net
	})
}

// deep is a copy that shares nothing.
func deep(l []api.Edge) []api.Edge {
	var c []api.Edge
	for _, e := range l {
		c = append(c, api.Edge{Row: slices.Clone(e.Row), At: e.At, Net: e.Net})
	}
	return c
}

// expect holds an answer against another one.
func expect(t *testing.T, got []api.Edge, e api.Errno, want []api.Edge, wanted api.Errno) {
	t.Helper()
	if !same(got, want) || e != wanted {
		t.Fatalf("%d, error %d, and not %d, error %d: %v, %v", len(got), e, len(want), wanted, got[:min(len(got), 9)], want[:min(len(want), 9)])
	}
}

// rows are those that edges speak of, in their order.
func rows(l []api.Edge) []api.Row {
	var found []api.Row
	for _, e := range l {
		if len(found) == 0 || !slices.Equal(found[len(found)-1], e.Row) {
			found = append(found, e.Row)
		}
	}
	return found
}

// times is the value of a row's function at an instant.
func times(l []api.Edge, r api.Row, at int) int {
	n := 0
	for _, e := range l {
		if slices.Equal(e.Row, r) && e.At <= at {
			n += e.Net
		}
	}
	return n
}

// instants are those at which something changes.
func instants(lists ...[]api.Edge) []int {
	var found []int
	for _, e := range slices.Concat(lists...) {
		found = append(found, e.At)
	}
	slices.Sort(found)
	return slices.Compact(found)
}

// course is the edges of a row whose function is told instant by instant, and whether there is room for it.
func course(r api.Row, at []int, value func(t int) int) ([]api.Edge, api.Errno) {
	var made []api.Edge
	now := 0
	for _, t := range at {
		v := value(t)
		if v != now {
			made = append(made, edges(r, t, v-now)...)
		}
		if v-now > maxNet || v-now < -maxNet || len(made) > maxJumps {
			return nil, api.ErrFull
		}
		now = v
	}
	return made, api.OK
}

// place is a row, by its key, and an instant.
type place struct {
	key string
	at  int
}

// meant is the document's meaning, of edges in form and a well-formed expression, found pair by pair and instant by instant.
func meant(l, r []api.Edge, x api.Expr) ([]api.Edge, api.Errno) {
	nets, at := map[place]int{}, instants(l, r)
	for _, a := range rows(l) {
		for _, b := range rows(r) {
			both := slices.Concat(a, b)
			product, e := course(both, at, func(t int) int { return times(l, a, t) * times(r, b, t) })
			if e != api.OK {
				return nil, e
			}
			if len(product) == 0 {
				continue
			}
			if len(both) > maxCols {
				return nil, api.ErrLong
			}
			holds, e := eval.Holds(x, both)
			if e != api.OK {
				return nil, e
			}
			for _, j := range product {
				if holds {
					nets[place{row.Key(both), j.At}] += j.Net
				}
			}
		}
	}
	return listed(nets)
}

// listed is edges by what they add up to at each place, if there is room for them.
func listed(nets map[place]int) ([]api.Edge, api.Errno) {
	var made []api.Edge
	jumps := map[string]int{}
	for p, net := range nets {
		if net == 0 {
			continue
		}
		r, _ := row.Read(bin.NewReader([]byte(p.key)))
		made = append(made, api.Edge{Row: r, At: p.at, Net: net})
		jumps[p.key]++
		if net > maxNet || net < -maxNet || jumps[p.key] > maxJumps || len(made) > maxEdges {
			return nil, api.ErrFull
		}
	}
	slices.SortFunc(made, func(a, b api.Edge) int {
		if order := row.Compare(a.Row, b.Row); order != 0 {
			return order
		}
		return a.At - b.At
	})
	return made, api.OK
}

// P31.1: the document's example, from both sides.
func TestExample(t *testing.T) {
	one, seven := edges(of(1), 2, 1, 9, -1), edges(of(7), 5, 1, 12, -1)
	got, e := join.Pairs(one, seven, read("1"))
	expect(t, got, e, edges(of(1, 7), 5, 1, 9, -1), api.OK)
	got, e = join.Pairs(seven, one, read("1"))
	expect(t, got, e, edges(of(7, 1), 5, 1, 9, -1), api.OK)
}

// P31.1: the joined row has the product of both functions: of tables and of changes, at the ends of time, and of rows of any number of columns.
func TestProducts(t *testing.T) {
	a, b, both := of(1), of(7, 8), of(1, 7, 8)
	tests := []struct {
		l, r, want []api.Edge
	}{
		{nil, nil, nil},
		{edges(a, 2, 1), nil, nil},
		{nil, edges(a, 2, 1), nil},
		{edges(a, 2, 1), edges(b, 2, 1), edges(both, 2, 1)},
		{edges(a, 2, 1, 5, -1), edges(b, 5, 1, 9, -1), nil},
		{edges(a, 2, 1, 6, -1), edges(b, 5, 1, 9, -1), edges(both, 5, 1, 6, -1)},
		{edges(a, 2, 1, 3, -1, 7, 1), edges(b, 3, 1, 7, -1), nil},
		{edges(a, 0, 2, 4, -1), edges(b, 1, 3, 6, -2), edges(both, 1, 6, 4, -3, 6, -2)},
		{edges(a, 2, -1, 9, 1), edges(b, 5, 1), edges(both, 5, -1, 9, 1)},
		{edges(a, 2, -1, 9, 1), edges(b, 5, -2), edges(both, 5, 2, 9, -2)},
		{edges(a, 2, 1, 4, -2, 6, 1), edges(b, 0, 1), edges(both, 2, 1, 4, -2, 6, 1)},
		{edges(a, 2, 1, 4, 1), edges(b, 2, 2, 4, -1), edges(both, 2, 2)},
		{edges(a, before, 1), edges(b, before, 1), edges(both, before, 1)},
		{edges(a, before, 1, 0, -1), edges(b, before, 2), edges(both, before, 2, 0, -2)},
		{edges(a, before, 1, 0, -1), edges(b, 0, 1), nil},
		{edges(a, last, 1), edges(b, before, 1), edges(both, last, 1)},
		{edges(a, 3, maxNet), edges(b, 3, 1, 4, -1), edges(both, 3, maxNet, 4, -maxNet)},
		{edges(a, 3, 1<<10), edges(b, 3, 1<<10), edges(both, 3, maxNet)},
		{edges(a, 3, -1<<10), edges(b, 3, 1<<10), edges(both, 3, -maxNet)},
		{edges(nil, 2, 1, 9, -1), edges(nil, 5, 1), edges(nil, 5, 1, 9, -1)},
		{edges(nil, 2, 1, 9, -1), edges(b, 5, 1), edges(b, 5, 1, 9, -1)},
		{edges(b, 2, 1, 9, -1), edges(nil, 5, 1), edges(b, 5, 1, 9, -1)},
		{edges(of(1, 2, 3, 4), 2, 1), edges(of(5, 6, 7, 8), 5, 1), edges(of(1, 2, 3, 4, 5, 6, 7, 8), 5, 1)},
		{edges(of(1, 2, 3, 4, 5, 6, 7, 8), 2, 1), edges(nil, 5, 1), edges(of(1, 2, 3, 4, 5, 6, 7, 8), 5, 1)},
		{edges(api.Row{text("a"), value.Num(2)}, 2, 1), edges(api.Row{text(""), text("a")}, 5, 1), edges(api.Row{text("a"), value.Num(2), text(""), text("a")}, 5, 1)},
		{saw(a, maxJumps, 0), edges(b, 0, 1), saw(both, maxJumps, 0)},
		{edges(a, 0, 1), saw(b, maxJumps, before), append(edges(both, 0, 1), saw(both, maxJumps, before)[1:]...)},
	}
	for i, x := range tests {
		got, e := join.Pairs(x.l, x.r, read("1"))
		if !same(got, x.want) || e != api.OK {
			t.Error(i, len(got), e, len(x.want), got[:min(len(got), 9)])
		}
		want, e := meant(x.l, x.r, read("1"))
		expect(t, x.want, api.OK, want, e)
	}
}

// P31.1: pairs of several rows, in the order of the joined rows, and those over which the expression holds: any number but 0.
func TestPairs(t *testing.T) {
	l := slices.Concat(edges(of(-1), 0, 1), edges(of(1), 2, 1, 9, -1), edges(of(2), before, 2, 4, -1))
	r := slices.Concat(edges(of(1), 5, 1, 12, -1), edges(of(2), 3, 1), edges(of(4), 9, 1))
	first, second, third := slices.Concat(edges(of(-1, 1), 5, 1, 12, -1), edges(of(-1, 2), 3, 1), edges(of(-1, 4), 9, 1)), slices.Concat(edges(of(1, 1), 5, 1, 9, -1), edges(of(1, 2), 3, 1, 9, -1)), slices.Concat(edges(of(2, 1), 5, 1, 12, -1), edges(of(2, 2), 3, 2, 4, -1), edges(of(2, 4), 9, 1))
	tests := []struct {
		x    string
		want []api.Edge
	}{
		{"1", slices.Concat(first, second, third)},
		{"- 3", slices.Concat(first, second, third)},
		{"0", nil},
		{"a = b", slices.Concat(second[:2], third[2:4])},
		{"a - b", slices.Concat(first, second[2:], third[:2], third[4:])},
		{"a < b", slices.Concat(first, second[2:], third[4:])},
		{"a > 0", slices.Concat(second, third)},
		{"b = 4", slices.Concat(first[3:], third[4:])},
		{"a = 1 and b = 4", nil},
		{"1 / (b - a * 4)", nil}, // 1 and 4 alone would have an error, and they are not there together
		{"'x' = 'x'", slices.Concat(first, second, third)},
	}
	for i, x := range tests {
		got, e := join.Pairs(l, r, read(x.x))
		if !same(got, x.want) || e != api.OK {
			t.Error(i, got, e, x.want)
		}
		want, e := meant(l, r, read(x.x))
		expect(t, x.want, api.OK, want, e)
	}
}

// P31.1: a joined row has the sum of what all its pairs make, wherever it is parted, and each one has its place in the order.
func TestSums(t *testing.T) {
	none, one, two := of(), of(1), of(1, 2)
	tests := []struct {
		l, r, want []api.Edge
	}{
		{slices.Concat(edges(none, 2, 1), edges(one, 3, 1)), slices.Concat(edges(none, 4, 1), edges(one, 5, 1)), slices.Concat(edges(none, 4, 1), edges(one, 4, 1, 5, 1), edges(of(1, 1), 5, 1))},
		{slices.Concat(edges(none, 2, 1), edges(one, 2, -1)), slices.Concat(edges(none, 2, 1), edges(one, 2, 1)), slices.Concat(edges(none, 2, 1), edges(of(1, 1), 2, -1))},
		{slices.Concat(edges(none, 2, 1), edges(one, 2, -1)), slices.Concat(edges(none, 2, 1), edges(one, 4, 1)), slices.Concat(edges(none, 2, 1), edges(one, 2, -1, 4, 1), edges(of(1, 1), 4, -1))},
		{slices.Concat(edges(one, 2, 1), edges(two, 2, 1)), slices.Concat(edges(none, 2, 1), edges(of(5), 2, 1)), slices.Concat(edges(one, 2, 1), edges(two, 2, 1), edges(of(1, 2, 5), 2, 1), edges(of(1, 5), 2, 1))},
		{slices.Concat(edges(none, 1, 1), edges(one, 1, 1), edges(two, 1, 1)), slices.Concat(edges(none, 1, 1), edges(two, 3, 1), edges(of(2), 2, 1)), slices.Concat(edges(none, 1, 1), edges(one, 1, 1), edges(of(1, 1, 2), 3, 1), edges(two, 1, 1, 2, 1, 3, 1), edges(of(1, 2, 1, 2), 3, 1), edges(of(1, 2, 2), 2, 1), edges(of(2), 2, 1))},
		{slices.Concat(edges(none, 1, maxNet), edges(one, 1, maxNet), edges(two, 1, -maxNet)), slices.Concat(edges(none, 1, 1), edges(two, 1, 1), edges(of(2), 1, 1)), slices.Concat(edges(none, 1, maxNet), edges(one, 1, maxNet), edges(of(1, 1, 2), 1, maxNet), edges(two, 1, maxNet), edges(of(1, 2, 1, 2), 1, -maxNet), edges(of(1, 2, 2), 1, -maxNet), edges(of(2), 1, maxNet))},
		{slices.Concat(edges(none, 1, 1, 2, -1), edges(one, 3, 1)), slices.Concat(edges(one, 1, 1), edges(of(1, 1), 1, 1)), slices.Concat(edges(one, 1, 1, 2, -1), edges(of(1, 1), 1, 1, 2, -1, 3, 1), edges(of(1, 1, 1), 3, 1))},
	}
	for i, x := range tests {
		got, e := join.Pairs(x.l, x.r, read("1"))
		if !same(got, x.want) || e != api.OK {
			t.Error(i, got, e, x.want)
		}
		want, e := meant(x.l, x.r, read("1"))
		expect(t, x.want, api.OK, want, e)
	}
}

// P31.1: the form of both lists, and then that of the expression.
func TestFormErrors(t *testing.T) {
	for _, l := range none() {
		for _, x := range append(noExprs(), long(), read("1"), read("1 / 0")) {
			for _, other := range [][]api.Edge{nil, edges(of(1), 6, 1), l} {
				got, e := join.Pairs(l, other, x)
				expect(t, got, e, nil, api.ErrArg)
				got, e = join.Pairs(other, l, x)
				expect(t, got, e, nil, api.ErrArg)
			}
		}
	}
	full, eight := edges(of(1), 6, maxNet), edges(of(1, 2, 3, 4, 5, 6, 7, 8), 6, 1)
	for _, l := range [][]api.Edge{nil, {}, edges(of(1), 6, 1), full, eight} {
		for _, r := range [][]api.Edge{nil, {}, full, eight} {
			for _, x := range noExprs() {
				got, e := join.Pairs(l, r, x)
				expect(t, got, e, nil, api.ErrExpr)
			}
			got, e := join.Pairs(l, r, long())
			expect(t, got, e, nil, api.ErrLong)
		}
	}
}

// P31.1: the first pair, in order, that has an error, with its first one; a pair that is never there together has none but that of the product, which is none.
func TestPairErrors(t *testing.T) {
	one, nought, great, eight := edges(of(1), 6, 1), edges(of(0), 6, 1), edges(of(1), 6, maxNet), edges(of(1, 2, 3, 4, 5, 6, 7, 8), 6, 1)
	letter := edges(api.Row{text("a")}, 6, 1)
	tests := []struct {
		l, r []api.Edge
		x    string
		e    api.Errno
	}{
		{nil, nil, "1 / 0", api.OK},
		{one, nil, "1 / 0", api.OK},
		{nil, one, "1 / 0", api.OK},
		{one, one, "1 / 0", api.ErrZero},
		{one, one, "'a'", api.ErrKind},
		{one, one, "c", api.ErrRange},
		{one, letter, "a + b", api.ErrKind},
		{one, edges(of(most), 6, 1), "a + b", api.ErrOver},
		{one, edges(api.Row{value.Num(1), value.Num(1), text(strings.Repeat("a", 64))}, 6, 1), "d ++ d = d", api.ErrLong},
		{one, edges(of(0), 0, 1, 6, -1), "1 / b", api.OK},
		{one, edges(of(0), 0, 1, 7, -1), "1 / b", api.ErrZero},
		{one, edges(of(0), last, 1), "1 / b", api.ErrZero},
		{one, edges(of(0), before, 1, 5, -1), "1 / b", api.OK},
		{edges(of(1), before, 1, 0, -1), edges(of(0), before, 1), "1 / b", api.ErrZero},
		{eight, one, "1", api.ErrLong},
		{one, eight, "1", api.ErrLong},
		{one, eight, "1 / 0", api.ErrLong},
		{one, eight, "0", api.ErrLong},
		{eight, edges(nil, 6, 1), "1", api.OK},
		{eight, edges(of(1), 0, 1, 6, -1), "1 / 0", api.OK},
		{edges(of(1, 2, 3, 4, 5), 6, 1), edges(of(1, 2, 3, 4), 6, 1), "1", api.ErrLong},
		{great, edges(of(2), 6, 2), "1 / 0", api.ErrFull},
		{great, edges(of(2), 6, 1, 8, 1), "1 / 0", api.ErrZero},
		{edges(of(1), 6, maxNet, 7, maxNet), edges(of(2), 7, 1), "0", api.ErrFull},
		{great, edges(of(1, 2, 3, 4, 5, 6, 7, 8), 6, -2), "1", api.ErrFull},
		{great, edges(of(2), 0, 2, 6, -2), "1 / 0", api.OK},
		{saw(of(1), maxJumps, 0), saw(of(2), maxJumps, 1), "1 / 0", api.ErrZero},
		{edges(of(1), 0, 1, 2, -1), edges(of(2), 2, maxNet, 3, maxNet), "1 / 0", api.OK},
		{slices.Concat(nought, one), one, "1 / a", api.ErrZero},
		{slices.Concat(nought, great), edges(of(1), 6, 2), "1 / a", api.ErrZero},
		{slices.Concat(nought, great), edges(of(1), 6, 2), "1 / (1 - a)", api.ErrFull},
		{great, slices.Concat(nought, edges(of(1), 6, 2)), "1 / b", api.ErrZero},
		{great, slices.Concat(edges(of(0), 6, 2), one), "1 / (1 - b)", api.ErrFull},
		{one, slices.Concat(eight, edges(of(2), 6, 1)), "1 / (2 - b)", api.ErrLong},
		{one, slices.Concat(nought, eight), "1 / b", api.ErrZero},
		{slices.Concat(one, eight), one, "1 / a", api.ErrLong},
		{slices.Concat(nought, eight), one, "1 / a", api.ErrZero},
		{slices.Concat(nought, one), slices.Concat(nought, one), "1 / (a - 2 * b + 1)", api.ErrZero},
		{slices.Concat(nought, one), slices.Concat(nought, letter), "1 / (a - b)", api.ErrZero},
		{slices.Concat(one, edges(of(2), 6, 1)), slices.Concat(one, letter), "1 / (2 - a) + b", api.ErrKind},
		{slices.Concat(one, edges(of(2), 6, 1)), slices.Concat(one, edges(of(most), 6, 1)), "1 / (2 - a) + b", api.ErrOver},
	}
	for i, x := range tests {
		got, e := join.Pairs(x.l, x.r, read(x.x))
		if e != x.e || e != api.OK && len(got) > 0 {
			t.Error(i, got, e, x.e)
		}
		if _, e := meant(x.l, x.r, read(x.x)); e != x.e {
			t.Error(i, "meant", e, x.e)
		}
	}
}

// P31.1: a product may have as many jumps as both functions together, which may be more than there is room for.
func TestTooManyJumps(t *testing.T) {
	l, r := saw(of(1), maxJumps/2+2, 0), edges(of(2), 0, 1)
	for i := range maxJumps / 2 {
		r = append(r, edges(of(2), 1+4*i, 1)...) // whenever the row of l is there
	}
	want, wanted := meant(l, r, read("1"))
	got, e := join.Pairs(l, r, read("1"))
	expect(t, got, e, want, wanted)
	got, e = join.Pairs(saw(of(1), maxJumps, 0), slices.Concat(edges(of(2), 0, 1), saw(of(2), maxJumps-1, 1)), read("1"))
	expect(t, got, e, nil, api.ErrFull)
}

// P31.1: as many edges as there is room for, and one more; an error of the last pair is told ahead of that.
func TestRoom(t *testing.T) {
	both := func(l []api.Edge, r ...[]api.Edge) [][]api.Edge { return [][]api.Edge{l, slices.Concat(r...)} }
	tests := []struct {
		lists [][]api.Edge
		x     string
		count int
		e     api.Errno
	}{
		{both(wide(64), wide(64)), "1", maxEdges, api.OK},
		{both(wide(64), wide(65)), "1", 0, api.ErrFull},
		{both(wide(65), wide(64)), "1", 0, api.ErrFull},
		{both(wide(65), wide(64)), "a < 64", maxEdges, api.OK},
		{both(wide(65), wide(64)), "1 / (a - 64)", 0, api.ErrZero},
		{both(wide(65), wide(64)), "1 / (a * b - 64 * 63)", 0, api.ErrZero},
		{both(wide(64), wide(64), edges(of(64, 1, 2, 3, 4, 5, 6, 7), 3, 1)), "1", 0, api.ErrLong},
		{both(wide(64), wide(63), edges(of(64), 3, 1), edges(of(65), 3, maxNet)), "1", 0, api.ErrFull},
		{both(wide(maxEdges), edges(nil, 3, 1)), "1", maxEdges, api.OK},
		{both(edges(nil, 3, 1), wide(maxEdges)), "1", maxEdges, api.OK},
		{both(wide(maxEdges), edges(of(5), 0, 1)), "1", maxEdges, api.OK},
		{both(wide(maxEdges), edges(of(5), 3, 1, 4, -1)), "1", 0, api.ErrFull},
		{both(wide(maxEdges/2), edges(of(5), 3, 1, 4, -1)), "1", maxEdges, api.OK},
		{both(wide(maxEdges), edges(of(5), 0, 1, 3, -1)), "1", 0, api.OK},
		{both(wide(1000), wide(1000)), "1", 0, api.ErrFull},
		{both(wide(1000), wide(1000)), "a = b", 1000, api.OK},
		{both(wide(1000), wide(1000)), "1 / (a + b - 2 * 999)", 0, api.ErrZero},
		{both(saw(of(1), maxJumps, 0), wide(4)), "1", 4 * (maxJumps - 2), api.OK}, // what is from 0 to 2 is over ahead of 3
		{both(saw(of(1), maxJumps, 4), wide(4)), "1", maxEdges, api.OK},
		{both(saw(of(1), maxJumps, 4), wide(5)), "1", 0, api.ErrFull},
		{both(saw(of(1), maxJumps, 4), wide(5)), "1 / (b - 4)", 0, api.ErrZero},
	}
	for i, x := range tests {
		got, e := join.Pairs(x.lists[0], x.lists[1], read(x.x))
		if len(got) != x.count || e != x.e || !edge.May(got) {
			t.Error(i, len(got), e, x.count, x.e)
		}
	}
}

// P31.1: there is room as long as what all pairs add up to is a function for each row, whatever a part of the sum is.
func TestRoomOfSums(t *testing.T) {
	none, one := of(), of(1)
	up := slices.Concat(edges(none, 4, maxNet), edges(one, 4, 1))
	got, e := join.Pairs(up, slices.Concat(edges(none, 4, 1), edges(one, 4, 1)), read("1"))
	expect(t, got, e, nil, api.ErrFull)
	got, e = join.Pairs(up, slices.Concat(edges(none, 5, 1), edges(one, 4, 1)), read("1"))
	expect(t, got, e, slices.Concat(edges(none, 5, maxNet), edges(one, 4, maxNet, 5, 1), edges(of(1, 1), 4, 1)), api.OK)
	got, e = join.Pairs(up, slices.Concat(edges(none, 4, 1), edges(one, 4, 1)), read("1 / b"))
	expect(t, got, e, nil, api.ErrRange)
	odd, even := saw(none, maxJumps/2+1, 1), saw(one, maxJumps/2, 0)
	got, e = join.Pairs(slices.Concat(odd[:maxJumps/2], even), slices.Concat(edges(none, before, 1), edges(one, before, 1)), read("1"))
	want, wanted := meant(slices.Concat(odd[:maxJumps/2], even), slices.Concat(edges(none, before, 1), edges(one, before, 1)), read("1"))
	expect(t, got, e, want, wanted)
	if len(edge.Jumps(got, one)) != maxJumps || e != api.OK {
		t.Fatal(len(got), e)
	}
	got, e = join.Pairs(slices.Concat(odd, even), slices.Concat(edges(none, before, 1), edges(one, before, 1)), read("1"))
	expect(t, got, e, nil, api.ErrFull)
}

// P31.1: far more edges than there is room for may come to nought, pair by pair.
func TestCancelled(t *testing.T) {
	const count = maxEdges/2 - 1
	l := slices.Concat(saw(nil, 4, 5), edges(of(0), 5, -1, 7, 1, 9, -1, 11, 1))
	var short, full []api.Edge
	for i := range count {
		short = append(short, edges(of(1+i, 5, 5), 3, 1)...)
		full = append(full, edges(of(0, 1+i, 5, 5), 3, 1)...)
	}
	got, e := join.Pairs(l, slices.Concat(full, short), read("a = 0 and b > 0"))
	expect(t, got, e, nil, api.OK)
	got, e = join.Pairs(l, slices.Concat(full, short), read("a = 0 and (b > 0 or c = 7)")) // one that has no other pair
	expect(t, got, e, edges(of(0, 0, 7, 5, 5), 5, -1, 7, 1, 9, -1, 11, 1), api.OK)
	got, e = join.Pairs(l, slices.Concat(full[1:], short), read("a = 0 and b > 0"))
	expect(t, got, e, edges(of(0, 1, 5, 5), 5, -1, 7, 1, 9, -1, 11, 1), api.OK)
	got, e = join.Pairs(l, slices.Concat(full, short), read("b > 0"))
	expect(t, got, e, nil, api.ErrFull)
}

// dice are numbers without a pattern, the same each time.
type dice uint64

func (d *dice) roll(n int) int {
	*d = *d*6364136223846793005 + 1442695040888963407
	return int(uint64(*d)>>33) % n
}

// row is of so many small numbers.
func (d *dice) row(cols int) api.Row {
	var r api.Row
	for range cols {
		r = append(r, value.Num(d.roll(3)))
	}
	return r
}

// edges are of a few rows with that many columns, or with up to two if that is -1, at a few instants; a table, where that is asked for.
func (d *dice) edges(cols int, isTable bool) []api.Edge {
	var l []api.Edge
	for range d.roll(8) {
		r := d.row(max(cols, 0))
		if cols < 0 {
			r = d.row(d.roll(3))
		}
		from, net := d.roll(7)-1, 1+d.roll(3)
		if !isTable && d.roll(2) == 0 {
			net = -net
		}
		l = append(l, edges(r, from, net)...)
		if d.roll(3) > 0 {
			l = append(l, edges(r, from+1+d.roll(5), -net)...)
		}
	}
	made, e := edge.Norm(l...)
	if e != api.OK || isTable && !edge.Table(made) {
		panic(e)
	}
	return made
}

// sure are expressions that have a number for rows of three small numbers, and unsure ones have one for some rows.
func sure() []api.Expr {
	var xs []api.Expr
	for _, s := range []string{"1", "a", "a = b", "b = c", "a < c", "a + b - c", "not b", "a * c", "0", "a = 1 or b = c"} {
		xs = append(xs, read(s))
	}
	return xs
}

func unsure() []api.Expr {
	var xs []api.Expr
	for _, s := range []string{"1", "0", "a < 2", "b", "1 / a", "1 / (a - b)", "a % c", "9223372036854775806 + a + b", "c", "1 / (3 - a - b - c)"} {
		xs = append(xs, read(s))
	}
	return xs
}

// P31.1: lists of a few rows, held against the meaning.
func TestMixed(t *testing.T) {
	d := dice(311)
	seen := map[api.Errno]int{}
	for range 10000 {
		l, r := d.edges(-1, d.roll(2) == 0), d.edges(-1, d.roll(2) == 0)
		x := unsure()[d.roll(len(unsure()))]
		want, wanted := meant(l, r, x)
		got, e := join.Pairs(l, r, x)
		expect(t, got, e, want, wanted)
		if len(got) > 0 || e != api.OK {
			seen[e]++
		}
	}
	for _, e := range []api.Errno{api.OK, api.ErrZero, api.ErrOver, api.ErrRange} {
		if seen[e] < 50 {
			t.Fatal(seen)
		}
	}
}

// P31.2: at each instant a joined row is there as often as the product of how often its rows are, if the expression holds, and not at all if it does not.
func TestTicks(t *testing.T) {
	d := dice(312)
	for range 3000 {
		l, r, x := d.edges(2, true), d.edges(1, true), sure()[d.roll(len(sure()))]
		got, e := join.Pairs(l, r, x)
		if e != api.OK || !edge.Table(got) {
			t.Fatal(got, e)
		}
		for _, a := range rows(l) {
			for _, b := range rows(r) {
				both := slices.Concat(a, b)
				holds, _ := eval.Holds(x, both)
				for at := before; at < 15; at++ {
					want := times(l, a, at) * times(r, b, at)
					if !holds {
						want = 0
					}
					if n := times(got, both, at); n != want {
						t.Fatal(both, at, n, want)
					}
				}
			}
		}
	}
}

// sum is what edges add up to, where there is room.
func sum(t *testing.T, a, b []api.Edge) []api.Edge {
	t.Helper()
	l, e := edge.Add(a, b)
	if e != api.OK {
		t.Fatal(e)
	}
	return l
}

// P31.3: the pairs of a sum are the sum of the pairs, on both sides; those of a negation are the negation.
func TestSumsOfLists(t *testing.T) {
	d := dice(313)
	for range 3000 {
		a, b, r, x := d.edges(2, false), d.edges(2, false), d.edges(1, false), sure()[d.roll(len(sure()))]
		first, e := join.Pairs(a, r, x)
		second, f := join.Pairs(b, r, x)
		if e != api.OK || f != api.OK {
			t.Fatal(e, f)
		}
		got, e := join.Pairs(sum(t, a, b), r, x)
		expect(t, got, e, sum(t, first, second), api.OK)
		first, e = join.Pairs(r, a, x)
		second, f = join.Pairs(r, b, x)
		if e != api.OK || f != api.OK {
			t.Fatal(e, f)
		}
		got, e = join.Pairs(r, sum(t, a, b), x)
		expect(t, got, e, sum(t, first, second), api.OK)
		minus, _ := edge.Neg(a)
		want, _ := edge.Neg(first)
		got, e = join.Pairs(r, minus, x)
		expect(t, got, e, want, api.OK)
	}
}

// P31.4: what is ahead of a place is made of what is ahead of it on both sides.
func TestAhead(t *testing.T) {
	d := dice(314)
	for i := range 3000 {
		l, r, x := d.edges(2, i%2 == 0), d.edges(1, i%2 == 0), sure()[d.roll(len(sure()))]
		whole, e := join.Pairs(l, r, x)
		if e != api.OK {
			t.Fatal(e)
		}
		for at := before - 1; at < 15; at++ {
			left, _ := edge.Ahead(l, at)
			right, _ := edge.Ahead(r, at)
			want, e := edge.Ahead(whole, at)
			got, f := join.Pairs(left, right, x)
			expect(t, got, f, want, e)
		}
	}
}

// anything is edges of which some are not in form.
func (d *dice) anything() []api.Edge {
	rows := []api.Row{nil, of(1), of(0, 0), of(least), {text("a")}, of(1, 2, 3, 4, 5), of(1, 2, 3, 4, 5, 6, 7, 8)}
	places := []int{before, 0, 1, 2, 3, last}
	nets := []int{-maxNet, -2, -1, 1, 2, maxNet}
	if d.roll(5) == 0 {
		rows = append(rows, noRows()...)
		places = append(places, least, -2, forever, most)
		nets = append(nets, least, -maxNet-1, 0, maxNet+1, most)
	}
	var l []api.Edge
	for range d.roll(4) {
		l = append(l, edges(rows[d.roll(len(rows))], places[d.roll(len(places))], nets[d.roll(len(nets))])...)
	}
	if made, e := edge.Norm(l...); e == api.OK && d.roll(5) > 0 {
		return made
	}
	return l
}

// P1, P2: any edges and expressions are answered: with edges in form, or with an error.
func TestAnything(t *testing.T) {
	d := dice(315)
	words := api.Expr{{Code: api.Get}, {Code: api.Get, Num: 1}, {Code: api.Num, Num: 1}, {Code: api.Str, Text: "a"}, {Code: api.Neg}, {Code: api.Len}, {Code: api.Quo}, {Code: api.Lt}, {Code: api.Get, Num: 8}, {}, {Code: 21}}
	answered := 0
	for range 200000 {
		l, r := d.anything(), d.anything()
		var x api.Expr
		for range 1 + d.roll(3) {
			x = append(x, words[d.roll(len(words))])
		}
		got, e := join.Pairs(l, r, x)
		if !edge.May(got) || e != api.OK && len(got) > 0 || (e == api.ErrArg) != (!edge.May(l) || !edge.May(r)) {
			t.Fatal(l, r, x, got, e)
		}
		if bad := expr.Form(x); e != api.ErrArg && bad != api.OK && e != bad {
			t.Fatal(x, e)
		}
		if e == api.OK && len(got) > 0 {
			answered++
		}
	}
	if answered < 500 {
		t.Fatal("too few:", answered)
	}
}

// overwrite fills, one edge after the other, all that it has room for, and looks whether the others stay; and then all that the list has room for.
func overwrite(t *testing.T, l []api.Edge) {
	t.Helper()
	for i := range l {
		others := deep(l[i+1:])
		whole := l[i].Row[:cap(l[i].Row)]
		for k := range whole {
			whole[k] = value.Num(99)
		}
		if !same(l[i+1:], others) {
			t.Fatal("two rows of one answer share memory")
		}
	}
	whole := l[:cap(l)]
	for i := range whole {
		whole[i] = api.Edge{Row: of(99), At: 77, Net: 99}
	}
}

// P3: what is told shares no memory with what it is of, nor its rows with each other, and nothing is written behind an argument.
func TestNew(t *testing.T) {
	left := slices.Concat(edges(nil, 2, 1, 5, -1, 7, 2), edges(of(2, 7), 1, 1, 3, 1), edges(of(5, 8), 2, 1))
	right := slices.Concat(edges(nil, 1, 1), edges(of(1, 7), 3, 1, 6, 1), edges(of(3, 1), 4, 1))
	l, r, x := deep(left), deep(right), append(make(api.Expr, 0, 9), read("a = a")...)[:1]
	for _, a := range [][]api.Edge{l[:5], l[:0], l, r} {
		for _, b := range [][]api.Edge{r[:3], r, l} {
			got, _ := join.Pairs(a, b, read("1"))
			other, _ := join.Pairs(a, b, read("1"))
			kept := deep(other)
			overwrite(t, got)
			if !same(l, left) || !same(r, right) || !same(other, kept) {
				t.Fatal("shared")
			}
		}
	}
	if got, e := join.Pairs(l[3:], r[1:], x); e != api.OK || len(got) == 0 || x[:3][1].Code != api.Get || x[:3][2].Code != api.Eq {
		t.Fatal(got, e, x[:3])
	}
}
