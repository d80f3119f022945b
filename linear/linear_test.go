package linear_test

import (
	"math"
	"slices"
	"strings"
	"testing"

	"rescind/api"
	"rescind/bin"
	"rescind/edge"
	"rescind/eval"
	"rescind/expr"
	"rescind/linear"
	"rescind/parse"
	"rescind/row"
	"rescind/value"
)

const (
	most     = math.MaxInt64
	least    = math.MinInt64
	before   = -1
	forever  = 1 << 50
	last     = forever - 1
	maxNet   = 1 << 20
	maxJumps = 1 << 10
	maxEdges = 1 << 12
	maxCols  = 8
	maxCode  = 64
)

func number(n int) api.Value { return value.Num(n) }

func text(s string) api.Value { return api.Value{Kind: api.Text, Text: s} }

// of is a row of numbers.
func of(l ...int) api.Row {
	var r api.Row
	for _, n := range l {
		r = append(r, number(n))
	}
	return r
}

// edges are those of a row, by their places and sizes, in turn.
func edges(r api.Row, l ...int) []api.Edge {
	var made []api.Edge
	for i := 0; i < len(l); i += 2 {
		made = append(made, api.Edge{Row: slices.Clone(r), At: l[i], Net: l[i+1]})
	}
	return made
}

// saw is the edges of a row that is there in turn and not, so many, each second instant from a place on.
func saw(r api.Row, count, from int) []api.Edge {
	var l []api.Edge
	for i := range count {
		l = append(l, edges(r, from+2*i, 1-2*(i%2))...)
	}
	return l
}

// wide are so many edges at one instant, each of another row, whose first column is 0 or 1.
func wide(count int) []api.Edge {
	var l []api.Edge
	for i := range count {
		l = append(l, edges(of(2*i/count, i), 3, 1)...)
	}
	return l
}

// noRows are lists of values that are no rows.
func noRows() []api.Row {
	return []api.Row{{{}}, {number(1), {}}, {{Kind: 3}}, {{Kind: api.Number, Text: "a"}}, {text(strings.Repeat("a", 65))}, slices.Repeat(of(0), maxCols+1), make(api.Row, 1)}
}

// none are lists of edges that are not in form.
func none() [][]api.Edge {
	l := [][]api.Edge{
		make([]api.Edge, 1),
		edges(of(1), 6, 0),
		edges(of(1), 6, maxNet+1),
		edges(of(1), 6, -maxNet-1),
		edges(of(1), 6, most),
		edges(of(1), 6, least),
		edges(of(1), -2, 1),
		edges(of(1), least, 1),
		edges(of(1), forever, 1),
		edges(of(1), 6, 1, forever, -1),
		edges(of(1), most, 1),
		edges(of(1), 8, 1, 6, 1),
		edges(of(1), 6, 1, 6, 1),
		slices.Concat(edges(of(2), 6, 1), edges(of(1), 6, 1)),
		slices.Concat(edges(of(1), 6, 1), edges(of(2), 6, 1), edges(of(1), 7, 1)),
		slices.Concat(edges(of(1), 6, 1), edges(of(2), 6, 0)),
		saw(of(1), maxJumps+1, 0),
		wide(maxEdges + 1),
		make([]api.Edge, 1<<16),
	}
	for _, r := range noRows() {
		l = append(l, edges(r, 6, 1), slices.Concat(edges(of(1), 6, 1), edges(r, 6, 1)))
	}
	return l
}

// read is an expression of the columns a, b and c, as it is written.
func read(s string) api.Expr {
	x, e := parse.Expr(s, api.Schema{{Name: "a", Kind: api.Number}, {Name: "b", Kind: api.Number}, {Name: "c", Kind: api.Text}})
	if e != api.OK {
		panic(s)
	}
	return x
}

// reads are expressions, as they are written.
func reads(l ...string) []api.Expr {
	var xs []api.Expr
	for _, s := range l {
		xs = append(xs, read(s))
	}
	return xs
}

// noExprs are expressions that are not well formed, and not too long.
func noExprs() []api.Expr {
	return []api.Expr{nil, {}, {{}}, {{Code: 21}}, {{Code: api.Add}}, {{Code: api.Get, Num: maxCols}}, {{Code: api.Get, Num: -1}}, {{Code: api.Num}, {Code: api.Num}}, {{Code: api.Str, Text: strings.Repeat("a", 65)}}, {{Code: api.Num}, {Code: api.Neg, Num: 1}}}
}

// long is an expression of too many operations.
func long() api.Expr {
	return append(read("a"), slices.Repeat(api.Expr{{Code: api.Neg}}, maxCode)...)
}

// same holds edges against each other, without the program's help.
func same(a, b []api.Edge) bool {
	return slices.EqualFunc(a, b, func(x, y api.Edge) bool {
		return slices.Equal(x.Row, y.Row) && x.At == y.At && x.Net == y.Net
	})
}

// deep is a copy that shares nothing.
func deep(l []api.Edge) []api.Edge {
	var c []api.Edge
	for _, e := range l {
		c = append(c, api.Edge{Row: slices.Clone(e.Row), At: e.At, Net: e.Net})
	}
	return c
}

// expect holds an answer against another one.
func expect(t *testing.T, got []api.Edge, e api.Errno, want []api.Edge, wanted api.Errno) {
	t.Helper()
	if !same(got, want) || e != wanted {
		t.Fatalf("%d, error %d, and not %d, error %d: %v, %v", len(got), e, len(want), wanted, got[:min(len(got), 9)], want[:min(len(want), 9)])
	}
}

// place is a row, by its key, and an instant.
type place struct {
	key string
	at  int
}

// meant is the edges of what each row becomes, a row or none, found instant by instant.
func meant(l []api.Edge, becomes func(r api.Row) ([]api.Row, api.Errno)) ([]api.Edge, api.Errno) {
	nets, jumps := map[place]int{}, map[string]int{}
	for _, e := range l {
		rows, bad := becomes(e.Row)
		if bad != api.OK {
			return nil, bad
		}
		for _, r := range rows {
			nets[place{row.Key(r), e.At}] += e.Net
		}
	}
	var made []api.Edge
	for p, net := range nets {
		if net == 0 {
			continue
		}
		r, _ := row.Read(bin.NewReader([]byte(p.key)))
		made = append(made, api.Edge{Row: r, At: p.at, Net: net})
		jumps[p.key]++
		if net > maxNet || net < -maxNet || jumps[p.key] > maxJumps || len(made) > maxEdges {
			return nil, api.ErrFull
		}
	}
	slices.SortFunc(made, func(a, b api.Edge) int {
		if order := row.Compare(a.Row, b.Row); order != 0 {
			return order
		}
		return a.At - b.At
	})
	return made, api.OK
}

// filtered, projected and picked are the document's meanings, of edges in form and expressions that are well formed.
func filtered(l []api.Edge, x api.Expr) ([]api.Edge, api.Errno) {
	return meant(l, func(r api.Row) ([]api.Row, api.Errno) {
		holds, e := eval.Holds(x, r)
		if !holds {
			return nil, e
		}
		return []api.Row{r}, e
	})
}

func projected(l []api.Edge, xs ...api.Expr) ([]api.Edge, api.Errno) {
	return meant(l, func(r api.Row) ([]api.Row, api.Errno) {
		var to api.Row
		for _, x := range xs {
			v, e := eval.Eval(x, r)
			if e != api.OK {
				return nil, e
			}
			to = append(to, v)
		}
		return []api.Row{to}, api.OK
	})
}

func picked(l []api.Edge, cols ...int) ([]api.Edge, api.Errno) {
	return meant(l, func(r api.Row) ([]api.Row, api.Errno) {
		to, e := row.Pick(r, cols...)
		return []api.Row{to}, e
	})
}

// P22.1, P22.2: the document's examples.
func TestExamples(t *testing.T) {
	l := slices.Concat(edges(of(1), 2, 1, 5, -1), edges(of(2), 5, 1, 9, -1))
	got, e := linear.Filter(l, read("a = 2"))
	expect(t, got, e, edges(of(2), 5, 1, 9, -1), api.OK)
	got, e = linear.Project(l, read("a > 0"))
	expect(t, got, e, edges(of(1), 2, 1, 9, -1), api.OK)
	got, e = linear.Pick(l, 1)
	expect(t, got, e, nil, api.ErrRange)
	got, e = linear.Union(l[:2], l[2:])
	expect(t, got, e, l, api.OK)
}

// mixed are edges of rows that have no schema together, tables and others.
func mixed() []api.Edge {
	return slices.Concat(edges(nil, before, -2, 7, 3), edges(of(-1), 2, 1), edges(of(0), 0, 1, 5, -1), edges(of(1), before, 1, 3, -5, last, 7), edges(of(1, 4), 5, -1), edges(of(2), 2, -1, 9, 1), edges(api.Row{number(2), number(2), text("x")}, 3, 1), edges(api.Row{text("")}, 4, maxNet), edges(api.Row{text("a"), number(1)}, 4, -maxNet))
}

// P22.1: a row is kept with all its edges, or with none; any number but 0 keeps it.
func TestFilter(t *testing.T) {
	l := slices.Concat(edges(of(-1, 5), 2, 1), edges(of(0, 5), 0, 1, 5, -1), edges(of(1, 4), before, 1, 3, -5, last, 7), edges(of(1, 5), 5, -1), edges(of(2, 2), 2, -1, 9, 1))
	tests := []struct {
		x    string
		want []api.Edge
	}{
		{"1", l},
		{"0", nil},
		{"- 7", l},
		{"a", slices.Concat(l[:1], l[3:])},
		{"not a", l[1:3]},
		{"a = 1", l[3:7]},
		{"a - b", l[:7]},
		{"b > 4", slices.Concat(l[:3], l[6:7])},
		{"b = 4 or a < 0", slices.Concat(l[:1], l[3:6])},
		{"len 'ab'", l},
		{"len ''", nil},
		{"'a' < 'b' and b <> 5", slices.Concat(l[3:6], l[7:])},
	}
	for _, x := range tests {
		got, e := linear.Filter(l, read(x.x))
		expect(t, got, e, x.want, api.OK)
		got, e = linear.Filter(nil, read(x.x))
		expect(t, got, e, nil, api.OK)
	}
	for _, full := range [][]api.Edge{wide(maxEdges), saw(of(1), maxJumps, before)} {
		for _, s := range []string{"1", "a", "b = 7"} {
			want, wanted := filtered(full, read(s))
			got, e := linear.Filter(full, read(s))
			expect(t, got, e, want, wanted)
		}
	}
	got, e := linear.Filter(mixed(), read("1"))
	expect(t, got, e, mixed(), api.OK)
}

// P22.1: the form of the edges, of the expression, and then the first row, in order, for which it has no number.
func TestFilterErrors(t *testing.T) {
	for _, l := range none() {
		for _, x := range append(noExprs(), long(), read("1"), read("a"), read("1 / 0")) {
			got, e := linear.Filter(l, x)
			expect(t, got, e, nil, api.ErrArg)
		}
	}
	for _, l := range [][]api.Edge{nil, {}, mixed(), edges(of(0), 3, 1)} {
		for _, x := range noExprs() {
			got, e := linear.Filter(l, x)
			expect(t, got, e, nil, api.ErrExpr)
		}
		got, e := linear.Filter(l, long())
		expect(t, got, e, nil, api.ErrLong)
	}
	nought, letter, small, big := edges(of(0), 3, 1), edges(api.Row{text("a")}, 2, 1), edges(of(least), 5, 1), edges(of(most), 1, 1)
	tests := []struct {
		l []api.Edge
		x string
		e api.Errno
	}{
		{nil, "1 / 0", api.OK},
		{nil, "'a'", api.OK},
		{nought, "'a'", api.ErrKind},
		{nought, "1 / a", api.ErrZero},
		{letter, "a", api.ErrKind},
		{letter, "1 / a", api.ErrKind},
		{big, "a + 1", api.ErrOver},
		{big, "b", api.ErrRange},
		{slices.Concat(nought, letter), "1 / a", api.ErrZero},
		{slices.Concat(small, letter), "- a", api.ErrOver},
		{slices.Concat(small, nought, letter), "10 / a", api.ErrZero},
		{slices.Concat(small, nought, big), "1 / a + a - 1", api.ErrOver},
		{slices.Concat(nought, big, letter), "a + 1", api.ErrOver},
		{slices.Concat(small, nought, big), "a + 1", api.ErrOver},
		{slices.Concat(edges(of(1), 9, 1), edges(of(1, 0), 8, 1), edges(of(1, 1), 7, 1)), "1 / b", api.ErrRange},
		{slices.Concat(edges(of(1, 0), 8, 1), edges(of(2), 7, 1)), "1 / b", api.ErrZero},
		{mixed(), "a", api.ErrRange},
		{mixed()[2:], "a", api.ErrKind},
		{mixed()[2:], "1 / a", api.ErrZero},
	}
	for _, x := range tests {
		got, e := linear.Filter(x.l, read(x.x))
		expect(t, got, e, nil, x.e)
	}
}

// P22.1: of lists in form and of others, in which their sum has room and in which it has not.
func TestUnion(t *testing.T) {
	lists := append(none(), nil, mixed(), edges(of(1), 2, 1, 5, -1), edges(of(1), 5, 1, 9, -1), edges(of(1), 2, -1, 5, 1), edges(of(1), 2, maxNet), edges(of(2), 2, -1), wide(maxEdges), wide(maxEdges-1), saw(of(1), maxJumps, 0), saw(of(1), maxJumps, 1))
	counts := map[api.Errno]int{}
	for _, a := range lists {
		for _, b := range lists {
			want, wanted := edge.Add(a, b)
			got, e := linear.Union(a, b)
			expect(t, got, e, want, wanted)
			counts[e]++
		}
	}
	if counts[api.OK] < 10 || counts[api.ErrFull] < 10 || counts[api.ErrArg] < 10 {
		t.Fatal(counts)
	}
	got, e := linear.Union(edges(of(1), 2, 1, 5, -1), edges(of(1), 5, 1, 9, -1))
	expect(t, got, e, edges(of(1), 2, 1, 9, -1), api.OK)
	got, e = linear.Union(edges(of(1), 2, maxNet), edges(of(1), 2, 1))
	expect(t, got, e, nil, api.ErrFull)
	got, e = linear.Union(nil, make([]api.Edge, 1))
	expect(t, got, e, nil, api.ErrArg)
}

// P22.2: the results in the order of the expressions; rows that become one are added up, and in the order of what they become.
func TestProject(t *testing.T) {
	c := api.Row{number(1), number(2), text("x")}
	l := slices.Concat(edges(c, 4, 1), edges(of(1, 7), 2, 1, 5, -1), edges(of(2, 7), 5, 1, 9, -1), edges(of(3, 4), 2, 1))
	tests := []struct {
		l    []api.Edge
		xs   []api.Expr
		want []api.Edge
	}{
		{l, reads("a", "b"), slices.Concat(edges(of(1, 2), 4, 1), edges(of(1, 7), 2, 1, 5, -1), edges(of(2, 7), 5, 1, 9, -1), edges(of(3, 4), 2, 1))},
		{l, reads("b", "a"), slices.Concat(edges(of(2, 1), 4, 1), edges(of(4, 3), 2, 1), edges(of(7, 1), 2, 1, 5, -1), edges(of(7, 2), 5, 1, 9, -1))},
		{l, reads("b"), slices.Concat(edges(of(2), 4, 1), edges(of(4), 2, 1), edges(of(7), 2, 1, 9, -1))},
		{l, reads("a"), slices.Concat(edges(of(1), 2, 1, 4, 1, 5, -1), edges(of(2), 5, 1, 9, -1), edges(of(3), 2, 1))},
		{l, reads("- a"), slices.Concat(edges(of(-3), 2, 1), edges(of(-2), 5, 1, 9, -1), edges(of(-1), 2, 1, 4, 1, 5, -1))},
		{l, nil, edges(nil, 2, 2, 4, 1, 9, -1)},
		{l, reads("5", "'y'", "5"), edges(api.Row{number(5), text("y"), number(5)}, 2, 2, 4, 1, 9, -1)},
		{l, slices.Repeat(reads("a > 9"), maxCols), edges(of(0, 0, 0, 0, 0, 0, 0, 0), 2, 2, 4, 1, 9, -1)},
		{l[:1], reads("c ++ c", "len c", "a"), edges(api.Row{text("xx"), number(1), number(1)}, 4, 1)},
		{slices.Concat(edges(of(1), 2, 1), edges(of(2), 2, -1)), reads("0"), nil},
		{slices.Concat(edges(of(1), 2, 1, 3, 2), edges(of(2), 2, -1, 3, 5)), reads("0"), edges(of(0), 3, 7)},
		{nil, reads("a"), nil},
		{nil, nil, nil},
		{mixed(), nil, edges(nil, before, -1, 0, 1, 3, -4, 5, -2, 7, 3, 9, 1, last, 7)},
	}
	for i, x := range tests {
		got, e := linear.Project(x.l, x.xs...)
		if !same(got, x.want) || e != api.OK {
			t.Error(i, got, e, x.want)
		}
		got, e = projected(x.l, x.xs...)
		expect(t, got, e, x.want, api.OK)
	}
}

// P22.2: the form of the edges, the number of expressions, their form, and then the first row, in order, with its first expression that has no result.
func TestProjectErrors(t *testing.T) {
	one := reads("a")
	for _, l := range none() {
		for _, xs := range [][]api.Expr{nil, one, make([]api.Expr, 9), {nil}, {long()}, reads("1 / 0")} {
			got, e := linear.Project(l, xs...)
			expect(t, got, e, nil, api.ErrArg)
		}
	}
	for _, l := range [][]api.Edge{nil, {}, mixed(), edges(of(0), 3, 1)} {
		for _, xs := range [][]api.Expr{make([]api.Expr, 9), slices.Repeat(one, 9), make([]api.Expr, 5000), append(slices.Repeat(one, 8), nil), append(reads("1 / 0"), slices.Repeat(one, 8)...)} {
			got, e := linear.Project(l, xs...)
			expect(t, got, e, nil, api.ErrLong)
		}
		for _, x := range noExprs() {
			for _, xs := range [][]api.Expr{{x}, append(reads("1"), x), append(reads("1 / 0", "b"), x), {x, long()}, append(slices.Repeat(one, 7), x)} {
				got, e := linear.Project(l, xs...)
				expect(t, got, e, nil, api.ErrExpr)
			}
		}
		for _, xs := range [][]api.Expr{{long()}, {long(), nil}, append(reads("1 / 0"), long(), nil)} {
			got, e := linear.Project(l, xs...)
			expect(t, got, e, nil, api.ErrLong)
		}
	}
	l := slices.Concat(edges(of(0, 1), 9, 1), edges(of(1, 0), 8, 1), edges(of(most, 1), 3, 1))
	tests := []struct {
		l  []api.Edge
		xs []api.Expr
		e  api.Errno
	}{
		{l, reads("1 / a"), api.ErrZero},
		{l, reads("a + 1"), api.ErrOver},
		{l, reads("a + 1", "1 / b"), api.ErrZero},
		{l, reads("1 / b", "a + 1"), api.ErrZero},
		{l, reads("a", "b", "c"), api.ErrRange},
		{l, reads("1 / b", "c"), api.ErrRange},
		{l, reads("c", "1 / a"), api.ErrRange},
		{l, reads("1 / a", "c"), api.ErrZero},
		{l, reads("a", "len a", "1 / a"), api.ErrKind},
		{l[2:], reads("1 / b", "a + b"), api.ErrOver},
		{nil, reads("1 / 0", "len 1"), api.OK},
		{slices.Concat(edges(of(1), 9, 1), edges(of(1, 0), 8, 1)), reads("1 / b"), api.ErrRange},
		{edges(of(1), 2, 1), reads("'" + strings.Repeat("x", 64) + "' ++ 'x'"), api.ErrLong},
	}
	for i, x := range tests {
		if got, e := linear.Project(x.l, x.xs...); len(got) > 0 || e != x.e {
			t.Error(i, got, e, x.e)
		}
	}
}

// calls are those that make another row of each one: of the first column alone, or of none.
func calls() []func(l []api.Edge) ([]api.Edge, api.Errno) {
	return []func(l []api.Edge) ([]api.Edge, api.Errno){
		func(l []api.Edge) ([]api.Edge, api.Errno) { return linear.Project(l, reads("a")...) },
		func(l []api.Edge) ([]api.Edge, api.Errno) { return linear.Pick(l, 0) },
	}
}

// P22.2: there is room as long as what all rows add up to is a function for each, whatever a part of the sum is; an error of a row is told ahead of that.
func TestRoom(t *testing.T) {
	up, down := edges(of(1, 1), 4, maxNet), edges(of(1, 2), 4, -maxNet)
	tests := []struct {
		l    []api.Edge
		want []api.Edge
		e    api.Errno
	}{
		{slices.Concat(up, edges(of(1, 2), 4, 1)), nil, api.ErrFull},
		{slices.Concat(up, edges(of(2, 2), 4, 1)), slices.Concat(edges(of(1), 4, maxNet), edges(of(2), 4, 1)), api.OK},
		{slices.Concat(up, edges(of(1, 2), 5, maxNet)), edges(of(1), 4, maxNet, 5, maxNet), api.OK},
		{slices.Concat(up, down), nil, api.OK},
		{slices.Concat(up, edges(of(1, 2), 4, maxNet), edges(of(1, 3), 4, -maxNet)), edges(of(1), 4, maxNet), api.OK},
		{slices.Concat(edges(of(1, 1), 4, -maxNet), down, edges(of(1, 3), 4, maxNet)), edges(of(1), 4, -maxNet), api.OK},
		{slices.Concat(edges(of(1, 1), 4, -maxNet), edges(of(1, 2), 4, -1)), nil, api.ErrFull},
		{slices.Concat(edges(of(1, 1), 4, 1), edges(of(2, 1), 4, maxNet), edges(of(2, 2), 4, 1)), nil, api.ErrFull},
		{slices.Concat(saw(of(1, 1), maxJumps, 0), edges(of(1, 2), 1, 1)), nil, api.ErrFull},
		{slices.Concat(saw(of(1, 1), maxJumps, 0), edges(of(1, 2), 0, 1)), append(edges(of(1), 0, 2), saw(of(1), maxJumps, 0)[1:]...), api.OK},
		{slices.Concat(saw(of(1, 1), maxJumps, 0), edges(of(1, 2), 0, -1, 1, 1)), append(edges(of(1), 1, 1), saw(of(1), maxJumps, 0)[1:]...), api.OK},
		{slices.Concat(saw(of(1, 1), maxJumps/2, 0), saw(of(1, 2), maxJumps/2, maxJumps)), saw(of(1), maxJumps, 0), api.OK},
		{slices.Concat(saw(of(1, 1), maxJumps/2, 0), saw(of(1, 2), maxJumps/2+1, maxJumps)), nil, api.ErrFull},
		{slices.Concat(saw(of(1, 1), maxJumps, 0), saw(of(1, 2), maxJumps, 1), saw(of(1, 3), maxJumps, 1<<20), saw(of(1, 4), maxJumps, 1<<30)), nil, api.ErrFull},
		{slices.Concat(saw(of(1, 1), maxJumps, 0), saw(of(2, 2), maxJumps, 1), saw(of(3, 3), maxJumps, 5), saw(of(4, 4), maxJumps, before)), slices.Concat(saw(of(1), maxJumps, 0), saw(of(2), maxJumps, 1), saw(of(3), maxJumps, 5), saw(of(4), maxJumps, before)), api.OK},
		{wide(maxEdges), slices.Concat(edges(of(0), 3, maxEdges/2), edges(of(1), 3, maxEdges/2)), api.OK},
	}
	for i, x := range tests {
		for k, call := range calls() {
			got, e := call(x.l)
			if !same(got, x.want) || e != x.e {
				t.Error(i, k, len(got), e, len(x.want), x.e)
			}
		}
	}
	l := slices.Concat(up, edges(of(1, 2), 4, 1), edges(of(2), 4, 1))
	got, e := linear.Project(l, reads("a * 0", "b * 0")...)
	expect(t, got, e, nil, api.ErrRange)
	got, e = linear.Pick(append(edges(nil, 3, 1), l...), 0)
	expect(t, got, e, nil, api.ErrRange)
	got, e = linear.Pick(l, 0)
	expect(t, got, e, nil, api.ErrFull)
}

// P22.2
func TestPick(t *testing.T) {
	l := slices.Concat(edges(api.Row{number(1), text("b"), number(7)}, 2, 1, 5, -1), edges(api.Row{number(2), text("a"), number(7)}, 5, 1, 9, -1), edges(api.Row{number(3), text("b")}, 2, 1))
	tests := []struct {
		l    []api.Edge
		cols []int
		want []api.Edge
	}{
		{l, []int{0}, slices.Concat(edges(of(1), 2, 1, 5, -1), edges(of(2), 5, 1, 9, -1), edges(of(3), 2, 1))},
		{l, []int{1}, slices.Concat(edges(api.Row{text("a")}, 5, 1, 9, -1), edges(api.Row{text("b")}, 2, 2, 5, -1))},
		{l, []int{1, 0, 0}, slices.Concat(edges(api.Row{text("a"), number(2), number(2)}, 5, 1, 9, -1), edges(api.Row{text("b"), number(1), number(1)}, 2, 1, 5, -1), edges(api.Row{text("b"), number(3), number(3)}, 2, 1))},
		{l[:4], []int{2}, edges(of(7), 2, 1, 9, -1)},
		{l, nil, edges(nil, 2, 2, 9, -1)},
		{l[:2], slices.Repeat([]int{2}, maxCols), edges(of(7, 7, 7, 7, 7, 7, 7, 7), 2, 1, 5, -1)},
		{slices.Concat(edges(of(1, 5), 2, 1), edges(of(2, 5), 2, -1)), []int{1}, nil},
		{nil, []int{0}, nil},
		{mixed(), nil, edges(nil, before, -1, 0, 1, 3, -4, 5, -2, 7, 3, 9, 1, last, 7)},
	}
	for i, x := range tests {
		got, e := linear.Pick(x.l, x.cols...)
		if !same(got, x.want) || e != api.OK {
			t.Error(i, got, e, x.want)
		}
		got, e = picked(x.l, x.cols...)
		expect(t, got, e, x.want, api.OK)
	}
}

// P22.2: the form of the edges, and then what is wrong with the columns for the first row: nothing, if there is none.
func TestPickErrors(t *testing.T) {
	for _, l := range none() {
		for _, cols := range [][]int{nil, {0}, {9}, {-1}, make([]int, 9)} {
			got, e := linear.Pick(l, cols...)
			expect(t, got, e, nil, api.ErrArg)
		}
	}
	l := slices.Concat(edges(of(1), 2, 1), edges(of(1, 5), 2, 1))
	tests := []struct {
		l    []api.Edge
		cols []int
		e    api.Errno
	}{
		{l, []int{1}, api.ErrRange}, {l, []int{0, 1}, api.ErrRange}, {l[1:], []int{2}, api.ErrRange}, {l[1:], []int{-1}, api.ErrRange}, {l, []int{most}, api.ErrRange}, {l, []int{least}, api.ErrRange}, {l, []int{8}, api.ErrRange},
		{l, make([]int, 9), api.ErrLong}, {l, slices.Repeat([]int{9}, 9), api.ErrLong}, {l, make([]int, 5000), api.ErrLong}, {slices.Concat(edges(nil, 1, 1), l), []int{0}, api.ErrRange}, {mixed(), []int{0}, api.ErrRange}, {mixed()[2:], []int{1}, api.ErrRange},
		{nil, []int{9}, api.OK}, {nil, []int{-1}, api.OK}, {nil, make([]int, 9), api.OK}, {[]api.Edge{}, make([]int, 9), api.OK},
	}
	for i, x := range tests {
		if got, e := linear.Pick(x.l, x.cols...); len(got) > 0 || e != x.e {
			t.Error(i, got, e, x.e)
		}
	}
}

// dice are numbers without a pattern, the same each time.
type dice uint64

func (d *dice) roll(n int) int {
	*d = *d*6364136223846793005 + 1442695040888963407
	return int(uint64(*d)>>33) % n
}

// edges are of a few rows of two numbers and a text, at a few instants; a table, where that is asked for.
func (d *dice) edges(isTable bool) []api.Edge {
	var l []api.Edge
	for range d.roll(12) {
		r := api.Row{number(d.roll(4) - 1), number(d.roll(3)), text(strings.Repeat("x", d.roll(3)))}
		from, net := d.roll(6)-1, 1+d.roll(3)
		if !isTable && d.roll(2) == 0 {
			net = -net
		}
		l = append(l, edges(r, from, net)...)
		if d.roll(3) > 0 {
			l = append(l, edges(r, from+1+d.roll(4), -net)...)
		}
	}
	made, e := edge.Norm(l...)
	if e != api.OK || isTable && !edge.Table(made) {
		panic(e)
	}
	return made
}

// sure are expressions that have a number for each of these rows, and unsure ones have one for some.
func sure() []api.Expr {
	return reads("a", "b", "len c", "a = b", "a * b - 1", "a + b", "not a", "1", "a < 1 or b > 0", "c <> 'x'", "len (c ++ c)")
}

func unsure() []api.Expr {
	return reads("1 / a", "1 / b", "c", "9223372036854775807 + a", "1 / (a - b)", "b % a", "a + c", "len b", "1 / (2 - len c)")
}

// exprs are up to so many, of sure ones and at times of others.
func (d *dice) exprs(most, risk int) []api.Expr {
	var xs []api.Expr
	for range d.roll(most + 1) {
		from := sure()
		if risk > 0 && d.roll(10) < risk {
			from = unsure()
		}
		xs = append(xs, from[d.roll(len(from))])
	}
	return xs
}

// cols are columns, nearly always of those that there are.
func (d *dice) cols(most, wrong int) []int {
	var l []int
	for range d.roll(most + 1) {
		l = append(l, d.roll(3+wrong))
	}
	return l
}

// P22.1, P22.2: lists of a few rows, held against the meaning.
func TestMixed(t *testing.T) {
	d := dice(221)
	counts := map[api.Errno]int{}
	for range 10000 {
		l := d.edges(d.roll(2) == 0)
		xs, cols := d.exprs(4, 1), d.cols(9, d.roll(2))
		for _, x := range xs[:min(len(xs), 1)] {
			want, wanted := filtered(l, x)
			got, e := linear.Filter(l, x)
			expect(t, got, e, want, wanted)
			counts[e]++
		}
		want, wanted := projected(l, xs...)
		got, e := linear.Project(l, xs...)
		expect(t, got, e, want, wanted)
		counts[e]++
		want, wanted = picked(l, cols...)
		got, e = linear.Pick(l, cols...)
		expect(t, got, e, want, wanted)
		counts[e]++
	}
	for _, e := range []api.Errno{api.OK, api.ErrZero, api.ErrOver, api.ErrKind, api.ErrRange, api.ErrLong} {
		if counts[e] < 20 {
			t.Fatal(counts)
		}
	}
}

// P22.3: of a sum, the sum of what is made of both summands; of the negation, the negation; of a table, a table.
func TestLinear(t *testing.T) {
	d := dice(223)
	for i := range 3000 {
		isTable := i%2 == 0
		a, b := d.edges(isTable), d.edges(isTable)
		sum, e := edge.Add(a, b)
		if e != api.OK {
			t.Fatal(e)
		}
		minus, _ := edge.Neg(a)
		xs, cols, third := d.exprs(3, 0), d.cols(4, 0), d.edges(isTable)
		filter := sure()[d.roll(len(sure()))]
		calls := []func(l []api.Edge) ([]api.Edge, api.Errno){
			func(l []api.Edge) ([]api.Edge, api.Errno) { return linear.Filter(l, filter) },
			func(l []api.Edge) ([]api.Edge, api.Errno) { return linear.Project(l, xs...) },
			func(l []api.Edge) ([]api.Edge, api.Errno) { return linear.Pick(l, cols...) },
		}
		for _, call := range calls {
			first, e := call(a)
			second, f := call(b)
			both, g := call(sum)
			want, bad := edge.Add(first, second)
			if e != api.OK || f != api.OK || bad != api.OK {
				t.Fatal(e, f, bad)
			}
			expect(t, both, g, want, api.OK)
			negated, e := call(minus)
			want, _ = edge.Neg(first)
			expect(t, negated, e, want, api.OK)
			if !edge.May(both) || isTable && !edge.Table(both) {
				t.Fatal(both)
			}
		}
		first, _ := linear.Union(a, third)
		second, _ := linear.Union(b, nil)
		want, _ := edge.Add(first, second)
		got, e := linear.Union(sum, third)
		expect(t, got, e, want, api.OK)
		if isTable && !edge.Table(got) {
			t.Fatal(got)
		}
	}
}

// P1, P2: any edges, expressions and columns are answered: with edges in form, or with an error.
func TestAnything(t *testing.T) {
	d := dice(224)
	rows := append(noRows(), nil, of(1), of(0, 0), of(least), api.Row{text("a")}, of(1, 2, 3, 4, 5, 6, 7, 8))
	places := []int{least, -2, before, 0, 1, 2, 3, last, forever, most}
	nets := []int{least, -maxNet - 1, -maxNet, -1, 0, 1, 1, 2, maxNet, maxNet + 1, most}
	words := api.Expr{{}, {Code: api.Get}, {Code: api.Get, Num: 1}, {Code: api.Get, Num: 8}, {Code: api.Num, Num: 1}, {Code: api.Str, Text: "a"}, {Code: api.Neg}, {Code: api.Len}, {Code: api.Quo}, {Code: api.Lt}, {Code: 21}}
	answered := 0
	for range 50000 {
		var l []api.Edge
		for range d.roll(4) {
			l = append(l, edges(rows[d.roll(len(rows))], places[d.roll(len(places))], nets[d.roll(len(nets))])...)
		}
		if made, e := edge.Norm(l...); e == api.OK && d.roll(2) == 0 {
			l = made
		}
		xs := make([]api.Expr, d.roll(3))
		for i := range xs {
			for range 1 + d.roll(3) {
				xs[i] = append(xs[i], words[d.roll(len(words))])
			}
		}
		check := func(got []api.Edge, e api.Errno) {
			t.Helper()
			if !edge.May(got) || e != api.OK && len(got) > 0 || e == api.OK && !edge.May(l) {
				t.Fatal(l, xs, got, e)
			}
			if e == api.OK && len(got) > 0 {
				answered++
			}
		}
		check(linear.Project(l, xs...))
		check(linear.Pick(l, d.cols(3, 6)...))
		check(linear.Union(l, l))
		for _, x := range xs {
			got, e := linear.Filter(l, x)
			check(got, e)
			if edge.May(l) && expr.Form(x) != api.OK && e != expr.Form(x) {
				t.Fatal(x, e)
			}
		}
	}
	if answered < 1000 {
		t.Fatal("too few:", answered)
	}
}

// overwrite fills, one edge after the other, all that it has room for, and looks whether the others stay; and then all that the list has room for.
func overwrite(t *testing.T, l []api.Edge) {
	t.Helper()
	for i := range l {
		others := deep(l[i+1:])
		whole := l[i].Row[:cap(l[i].Row)]
		for k := range whole {
			whole[k] = number(99)
		}
		if !same(l[i+1:], others) {
			t.Fatal("two rows of one answer share memory")
		}
	}
	whole := l[:cap(l)]
	for i := range whole {
		whole[i] = api.Edge{Row: of(99), At: 77, Net: 99}
	}
}

// P3: what is told shares no memory with what it is of, nor its rows with each other, and nothing is written behind an argument.
func TestNew(t *testing.T) {
	xs := append(reads("a + 1", "b"), reads("a", "c")...)
	cols := []int{1, 0, 2, 2}
	calls := []func(a, b []api.Edge) ([]api.Edge, api.Errno){
		func(a, b []api.Edge) ([]api.Edge, api.Errno) { return linear.Filter(a, xs[0][:3]) },
		func(a, b []api.Edge) ([]api.Edge, api.Errno) { return linear.Filter(a, read("b = 7")) },
		func(a, b []api.Edge) ([]api.Edge, api.Errno) { return linear.Project(a, xs[:2]...) },
		func(a, b []api.Edge) ([]api.Edge, api.Errno) { return linear.Project(a, xs[1:2]...) },
		func(a, b []api.Edge) ([]api.Edge, api.Errno) { return linear.Pick(a, cols[:2]...) },
		func(a, b []api.Edge) ([]api.Edge, api.Errno) { return linear.Pick(a, cols[:1]...) },
		linear.Union,
	}
	whole := slices.Concat(edges(of(1, 7), 2, 1, 5, -1, 7, 2), edges(of(2, 7), 1, 1, 3, 1), edges(of(5, 8), 2, 1))
	second := slices.Concat(edges(of(1, 7), 3, 1, 6, 1), edges(of(3, 1), 4, 1))
	exprs, columns := slices.Clone(xs), slices.Clone(cols)
	for i, x := range exprs {
		exprs[i] = slices.Clone(x)
	}
	for i, call := range calls {
		a, b := deep(whole), deep(second)
		for _, left := range [][]api.Edge{a[:5], a[:0], a} {
			for _, right := range [][]api.Edge{b[:2], b} {
				l, e := call(left, right)
				other, _ := call(left, right)
				kept := deep(other)
				if e != api.OK || !same(a, whole) || !same(b, second) {
					t.Fatal(i, e, a, b)
				}
				overwrite(t, l)
				if !same(a, whole) || !same(b, second) || !same(other, kept) {
					t.Fatal(i, "shared")
				}
			}
		}
	}
	if !slices.Equal(cols, columns) || !slices.EqualFunc(xs, exprs, func(x, y api.Expr) bool { return slices.Equal(x, y) }) {
		t.Fatal(xs, cols)
	}
}
