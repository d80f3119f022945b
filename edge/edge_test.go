package edge_test

import (
	"iter"
	"math"
	"slices"
	"strings"
	"testing"

	"rescind/api"
	"rescind/bin"
	"rescind/edge"
	"rescind/row"
	"rescind/step"
	"rescind/value"
)

const (
	most     = math.MaxInt64
	least    = math.MinInt64
	before   = -1
	forever  = 1 << 50
	last     = forever - 1
	maxNet   = 1 << 20
	maxJumps = 1 << 10
	maxEdges = 1 << 12
)

func number(n int) api.Value { return value.Num(n) }

func text(s string) api.Value { return api.Value{Kind: api.Text, Text: s} }

func one(n int) api.Row { return api.Row{number(n)} }

// times is a row of one value, so many times.
func times(count int, v api.Value) api.Row {
	r := make(api.Row, count)
	for i := range r {
		r[i] = v
	}
	return r
}

// rows are rows, each behind the one ahead of it.
func rows() []api.Row {
	return []api.Row{nil, one(-1), one(1), {number(1), text("a")}, {number(1), text("b")}, one(2), {text("")}, times(8, text("x"))}
}

// noRows are lists of values that are no rows.
func noRows() []api.Row {
	return []api.Row{{{}}, {number(1), {}}, {{Kind: 3}}, {{Kind: api.Number, Text: "a"}}, {text(strings.Repeat("a", 65))}, times(9, number(0)), make(api.Row, 1)}
}

// jumps are jumps by their places and sizes, in turn.
func jumps(l ...int) []api.Jump {
	var f []api.Jump
	for i := 0; i < len(l); i += 2 {
		f = append(f, api.Jump{At: l[i], Net: l[i+1]})
	}
	return f
}

// edges are those of a row, by their places and sizes, in turn.
func edges(r api.Row, l ...int) []api.Edge {
	var made []api.Edge
	for _, j := range jumps(l...) {
		made = append(made, api.Edge{Row: slices.Clone(r), At: j.At, Net: j.Net})
	}
	return made
}

// saw is the edges of a row that is there in turn and not, so many, from a place on.
func saw(r api.Row, count, from int) []api.Edge {
	var l []api.Edge
	for i := range count {
		l = append(l, edges(r, from+i, 1-2*(i%2))...)
	}
	return l
}

// full are as many edges as there may be, of four rows with as many as one may have.
func full() []api.Edge {
	return slices.Concat(saw(one(1), maxJumps, 0), saw(one(2), maxJumps, before), saw(one(3), maxJumps, 5), saw(one(4), maxJumps, 0))
}

// wide are as many edges as there may be, each of another row.
func wide(count int) []api.Edge {
	var l []api.Edge
	for i := range count {
		l = append(l, edges(one(i), 3, 1)...)
	}
	return l
}

// tables are lists of edges that are tables, all of them different.
func tables() [][]api.Edge {
	l := [][]api.Edge{
		nil,
		edges(nil, 0, 1),
		edges(nil, before, 1, 0, -1),
		edges(one(1), 2, 1, 5, -1),
		edges(one(1), 5, 1),
		edges(one(1), 2, 1),
		edges(one(1), 2, 1, 9, -1),
		edges(one(1), before, 3, 4, -1, 6, -2),
		edges(one(1), last, 1),
		edges(one(1), before, maxNet, last, -maxNet),
		edges(one(1), 0, maxNet, 1, maxNet, 2, maxNet),
		slices.Concat(edges(one(1), 2, 1), edges(one(2), 1, 1)),
		slices.Concat(edges(one(1), 2, 1, 5, -1), edges(api.Row{number(1), text("a")}, 0, 1), edges(one(2), 2, 1, 5, -1)),
		full(),
		wide(maxEdges),
		saw(one(1), maxJumps, 0),
	}
	var all []api.Edge
	for i, r := range rows() {
		all = append(all, edges(r, i-1, 1, i+2, 2, 20, -3)...)
	}
	return append(l, all)
}

// changes are lists of edges in form that are no tables, all of them different.
func changes() [][]api.Edge {
	l := [][]api.Edge{
		edges(one(1), 2, -1),
		edges(one(1), before, -1),
		edges(one(1), 2, 1, 5, -2),
		edges(one(1), 2, 1, 5, -2, 6, 1),
		edges(one(1), last, -maxNet),
		edges(one(1), 2, -1, 5, 1),
		slices.Concat(edges(one(1), before, 1, 3, -2), edges(one(2), 1, 1)),
		slices.Concat(edges(one(1), 2, 1), edges(one(2), 2, -1)),
		slices.Concat(edges(one(1), 2, -1), edges(one(2), 2, 1)),
		append(slices.Clone(full()[:maxEdges-1]), edges(one(5), 9, -1)...),
	}
	var all []api.Edge
	for i, r := range rows() {
		all = append(all, edges(r, i-1, 1-2*(i%2), 8, -5, last, 2)...)
	}
	return append(l, all)
}

// none are lists of edges that are not in form.
func none() [][]api.Edge {
	a := edges(one(1), 2, 1, 5, -1)
	l := [][]api.Edge{
		make([]api.Edge, 1),
		edges(one(1), 2, 0),
		edges(one(1), 2, 1, 3, 0),
		edges(one(1), 2, maxNet+1),
		edges(one(1), 2, -maxNet-1),
		edges(one(1), 2, most),
		edges(one(1), 2, least),
		edges(one(1), -2, 1),
		edges(one(1), least, 1),
		edges(one(1), forever, 1),
		edges(one(1), 2, 1, forever, -1),
		edges(one(1), most, 1),
		edges(one(1), 5, 1, 2, 1),
		edges(one(1), 2, 1, 2, 1),
		edges(one(1), 2, 1, 2, -1),
		slices.Concat(edges(one(2), 1, 1), edges(one(1), 1, 1)),
		slices.Concat(edges(one(1), 1, 1), edges(nil, 1, 1)),
		slices.Concat(edges(one(1), 1, 1), edges(one(2), 1, 1), edges(one(1), 2, 1)),
		slices.Concat(edges(one(1), 1, 1), edges(one(2), 5, 1, 4, 1), edges(one(3), 2, 1)),
		slices.Concat(edges(one(1), 1, 1), edges(one(2), 5, 1), edges(one(3), 2, 0)),
		append(slices.Clone(a), a...),
		saw(one(1), maxJumps+1, 0),
		slices.Concat(edges(nil, 1, 1), saw(one(1), maxJumps+1, 0)),
		wide(maxEdges + 1),
		append(full(), edges(one(5), 1, 1)...),
		make([]api.Edge, 1<<16),
	}
	for _, r := range noRows() {
		l = append(l, edges(r, 2, 1), slices.Concat(a, edges(r, 6, 1)), slices.Concat(edges(r, 1, 1), a), slices.Concat(edges(one(1), 1, 1), edges(r, 1, 1), edges(one(2), 1, 1)))
	}
	return l
}

// far are places at the ends of the instants, and beyond.
func far() []int {
	return []int{least, least + 1, -forever, -2, before, 0, 1, last - 1, last, forever, forever + 1, most - 1, most}
}

// model is edges as the functions of their rows, found by the rows' keys.
type model map[string][]api.Jump

func modelOf(l []api.Edge) model {
	m := model{}
	for _, e := range l {
		k := row.Key(e.Row)
		m[k] = append(m[k], api.Jump{At: e.At, Net: e.Net})
	}
	return m
}

// edges are those of a model, with the rows in order; ErrFull, if there are too many.
func (m model) edges() ([]api.Edge, api.Errno) {
	var l []api.Edge
	for k, f := range m {
		r, _ := row.Read(bin.NewReader([]byte(k)))
		for _, j := range f {
			l = append(l, api.Edge{Row: r, At: j.At, Net: j.Net})
		}
	}
	slices.SortStableFunc(l, func(a, b api.Edge) int { return row.Compare(a.Row, b.Row) })
	if len(l) > maxEdges {
		return nil, api.ErrFull
	}
	return l, api.OK
}

// byRow is what op makes of the functions of all rows of both lists. It has to make nothing of nothing.
func byRow(a, b []api.Edge, op func(f, g []api.Jump) ([]api.Jump, api.Errno)) ([]api.Edge, api.Errno) {
	x, y, made := modelOf(a), modelOf(b), model{}
	for _, e := range slices.Concat(a, b) {
		k := row.Key(e.Row)
		if _, done := made[k]; done {
			continue
		}
		f, e := op(x[k], y[k])
		if e != api.OK {
			return nil, e
		}
		made[k] = f
	}
	return made.edges()
}

// same holds edges against each other, without the program's help.
func same(a, b []api.Edge) bool {
	return slices.EqualFunc(a, b, func(x, y api.Edge) bool {
		return slices.Equal(x.Row, y.Row) && x.At == y.At && x.Net == y.Net
	})
}

// expect holds an answer against another one.
func expect(t *testing.T, got []api.Edge, e api.Errno, want []api.Edge, wanted api.Errno) {
	t.Helper()
	if !same(got, want) || e != wanted {
		t.Fatalf("%d, error %d, and not %d, error %d: %v, %v", len(got), e, len(want), wanted, got[:min(len(got), 9)], want[:min(len(want), 9)])
	}
}

// deep is a copy that shares nothing.
func deep(l []api.Edge) []api.Edge {
	var c []api.Edge
	for _, e := range l {
		c = append(c, api.Edge{Row: slices.Clone(e.Row), At: e.At, Net: e.Net})
	}
	return c
}

// P10.1
func TestMay(t *testing.T) {
	for _, l := range slices.Concat(tables(), changes(), [][]api.Edge{{}}) {
		if !edge.May(l) {
			t.Error(len(l), l[:min(len(l), 9)])
		}
	}
	for _, l := range none() {
		if edge.May(l) {
			t.Error(len(l), l[:min(len(l), 9)])
		}
	}
}

// P10.1
func TestTable(t *testing.T) {
	for _, l := range append(tables(), []api.Edge{}) {
		if !edge.Table(l) {
			t.Error(len(l), l[:min(len(l), 9)])
		}
	}
	for _, l := range append(changes(), none()...) {
		if edge.Table(l) {
			t.Error(len(l), l[:min(len(l), 9)])
		}
	}
}

// P10.1: of lists in form, and of others.
func TestSame(t *testing.T) {
	all := slices.Concat(tables(), changes(), none())
	for _, b := range all {
		c := deep(b)
		for _, a := range all {
			if is := edge.Same(a, c); is != same(a, b) {
				t.Error(a[:min(len(a), 9)], b[:min(len(b), 9)], is)
			}
		}
	}
	a := slices.Concat(edges(one(2), 5, 0, 3, 7), edges(api.Row{{Kind: 9}}, forever+1, most))
	if !edge.Same(a, deep(a)) || !edge.Same(nil, []api.Edge{}) || !edge.Same(edges(nil, 1, 1), []api.Edge{{Row: api.Row{}, At: 1, Net: 1}}) {
		t.Error("not the same")
	}
	for i := range a {
		for _, other := range []api.Edge{{Row: one(3), At: a[i].At, Net: a[i].Net}, {Row: a[i].Row, At: 4, Net: a[i].Net}, {Row: a[i].Row, At: a[i].At, Net: 4}, {At: a[i].At, Net: a[i].Net}} {
			b := deep(a)
			b[i] = other
			if edge.Same(a, b) || edge.Same(b, a) {
				t.Error(i, other)
			}
		}
	}
	if edge.Same(a, a[:2]) || edge.Same(a[:2], a) || edge.Same(a, []api.Edge{a[1], a[0], a[2]}) || edge.Same(a, nil) {
		t.Error("the same")
	}
}

// P10.1
func TestNorm(t *testing.T) {
	no := api.Row{{}}
	tests := []struct {
		l    []api.Edge
		want []api.Edge
		e    api.Errno
	}{
		{nil, nil, api.OK},
		{slices.Concat(edges(one(2), 1, 1), edges(one(1), 3, -2, before, 1)), slices.Concat(edges(one(1), before, 1, 3, -2), edges(one(2), 1, 1)), api.OK},
		{slices.Concat(edges(one(1), 2, 1), edges(one(2), 2, 1), edges(one(1), 2, -1)), edges(one(2), 2, 1), api.OK},
		{slices.Concat(edges(one(1), 2, 1), edges(api.Row{number(1), text("a")}, 2, -1), edges(nil, 2, 4)), slices.Concat(edges(nil, 2, 4), edges(one(1), 2, 1), edges(api.Row{number(1), text("a")}, 2, -1)), api.OK},
		{slices.Concat(edges(one(1), 2, 1), edges(one(2), 2, 1), edges(one(1), 2, 1)), slices.Concat(edges(one(1), 2, 2), edges(one(2), 2, 1)), api.OK},
		{[]api.Edge{{Row: nil, At: 1, Net: 1}, {Row: api.Row{}, At: 1, Net: 1}}, edges(nil, 1, 2), api.OK},
		{edges(one(1), 5, -1, 2, 1, 5, 1, forever, 4), edges(one(1), 2, 1), api.OK},
		{edges(one(1), forever, maxNet, forever, maxNet, forever, 1), nil, api.OK},
		{edges(one(1), last, 1, forever, -1), edges(one(1), last, 1), api.OK},
		{edges(one(1), 2, 0), nil, api.OK},
		{edges(one(1), 2, maxNet, 2, maxNet, 2, -maxNet), edges(one(1), 2, maxNet), api.OK},
		{edges(one(1), 2, -maxNet), edges(one(1), 2, -maxNet), api.OK},
		{slices.Concat(edges(one(1), 2, maxNet), edges(one(2), 2, maxNet)), slices.Concat(edges(one(1), 2, maxNet), edges(one(2), 2, maxNet)), api.OK},
		{edges(one(1), 2, maxNet, 2, 1), nil, api.ErrFull},
		{edges(one(1), 2, -maxNet, 2, -1), nil, api.ErrFull},
		{slices.Concat(edges(one(1), 2, 1), edges(one(2), 2, maxNet, 2, 1), edges(one(3), 2, 1)), nil, api.ErrFull},
		{edges(one(1), -2, 1<<21), nil, api.ErrArg},
		{edges(one(1), 2, maxNet+1), nil, api.ErrArg},
		{edges(one(1), 2, -maxNet-1), nil, api.ErrArg},
		{edges(one(1), 2, most), nil, api.ErrArg},
		{edges(one(1), 2, least), nil, api.ErrArg},
		{edges(one(1), 2, maxNet+1, 2, -1), nil, api.ErrArg},
		{edges(one(1), forever, maxNet+1), nil, api.ErrArg},
		{edges(no, 2, 1), nil, api.ErrArg},
		{edges(no, 2, 0), nil, api.ErrArg},
		{edges(no, forever, 1), nil, api.ErrArg},
		{edges(no, 2, 1, 2, -1), nil, api.ErrArg},
		{edges(no, -2, 1), nil, api.ErrArg},
		{slices.Concat(edges(one(1), 2, maxNet, 2, 1, -2, 1), edges(no, 1, 1)), nil, api.ErrArg}, // told ahead of all others, wherever it stands
		{slices.Concat(edges(no, 1, 1), edges(one(1), -2, 1)), nil, api.ErrArg},
		{slices.Concat(edges(one(1), -2, 1), edges(one(2), 1, maxNet+1)), nil, api.ErrArg},
		{slices.Concat(edges(one(2), 1, maxNet+1), edges(one(1), -2, 1)), nil, api.ErrArg},
		{slices.Concat(edges(one(1), -2, 1), edges(one(2), 1, -maxNet-1)), nil, api.ErrArg},
		{edges(one(1), -2, 1), nil, api.ErrTime},
		{edges(one(1), -2, 0), nil, api.ErrTime},
		{edges(one(1), forever+1, 1), nil, api.ErrTime},
		{edges(one(1), least, 1), nil, api.ErrTime},
		{edges(one(1), most, 1), nil, api.ErrTime},
		{edges(one(1), -2, 1, -2, -1), nil, api.ErrTime},
		{slices.Concat(edges(one(1), 2, maxNet, 2, 1), edges(one(2), forever+1, 1)), nil, api.ErrTime}, // told ahead of that there is no room
		{slices.Concat(edges(one(1), 2, maxNet, 2, 1), edges(one(2), -2, 1)), nil, api.ErrTime},
	}
	for i, x := range tests {
		if l, e := edge.Norm(x.l...); !same(l, x.want) || e != x.e {
			t.Errorf("%d: %v, error %d", i, l, e)
		}
	}
	for _, r := range noRows() {
		if l, e := edge.Norm(edges(r, 2, 1)...); len(l) != 0 || e != api.ErrArg {
			t.Error(r, l, e)
		}
	}
	if l, e := edge.Norm(); len(l) != 0 || e != api.OK {
		t.Error(l, e)
	}
}

// P10.1: what is left counts alone.
func TestNormOfMany(t *testing.T) {
	all := full()
	tests := []struct {
		l    []api.Edge
		want []api.Edge
		e    api.Errno
	}{
		{all, all, api.OK},
		{append(full(), edges(one(5), 1, 1)...), nil, api.ErrFull},
		{append(full(), edges(one(5), 1, 1, 1, -1)...), all, api.OK},
		{append(full(), edges(one(5), 1, 0)...), all, api.OK},
		{append(full(), edges(one(5), forever, 1)...), all, api.OK},
		{append(full(), edges(one(4), maxJumps-1, 1)...), all[:maxEdges-1], api.OK},
		{wide(maxEdges), wide(maxEdges), api.OK},
		{wide(maxEdges + 1), nil, api.ErrFull},
		{saw(one(1), maxJumps+1, 0), nil, api.ErrFull}, // too many of one row, though not too many
		{slices.Concat(saw(one(1), maxJumps+1, 0), edges(one(1), maxJumps, -1)), saw(one(1), maxJumps, 0), api.OK},
		{slices.Repeat(edges(one(1), 3, 1), 1<<14), edges(one(1), 3, 1<<14), api.OK},
		{slices.Repeat(slices.Concat(wide(3), edges(one(1), 3, -1), edges(nil, 3, 0)), 1<<12), slices.Concat(edges(one(0), 3, 1<<12), edges(one(2), 3, 1<<12)), api.OK},
	}
	for _, x := range tests {
		l, e := edge.Norm(x.l...)
		expect(t, l, e, x.want, x.e)
		back := slices.Clone(x.l)
		slices.Reverse(back)
		l, e = edge.Norm(back...)
		expect(t, l, e, x.want, x.e)
	}
}

// P10.1: edges in form stay as they are, in whichever order they are.
func TestNormOfForm(t *testing.T) {
	for _, l := range append(tables(), changes()...) {
		got, e := edge.Norm(l...)
		expect(t, got, e, l, api.OK)
		back := slices.Clone(l)
		slices.Reverse(back)
		got, e = edge.Norm(back...)
		expect(t, got, e, l, api.OK)
		var mixed []api.Edge
		for i := range l {
			mixed = append(mixed, l[i*5%len(l)])
		}
		if len(l)%5 != 0 {
			got, e = edge.Norm(mixed...)
			expect(t, got, e, l, api.OK)
		}
	}
}

// P10.2
func TestOf(t *testing.T) {
	for _, r := range rows() {
		tests := []struct {
			from, to int
			want     []api.Edge
			e        api.Errno
		}{
			{2, 5, edges(r, 2, 1, 5, -1), api.OK},
			{0, 1, edges(r, 0, 1, 1, -1), api.OK},
			{5, forever, edges(r, 5, 1), api.OK},
			{0, forever, edges(r, 0, 1), api.OK},
			{last, forever, edges(r, last, 1), api.OK},
			{3, last, edges(r, 3, 1, last, -1), api.OK},
			{0, 0, nil, api.ErrSpan},
			{5, 5, nil, api.ErrSpan},
			{5, 2, nil, api.ErrSpan},
			{before, 5, nil, api.ErrSpan}, // a span begins at a tick
			{before, 0, nil, api.ErrSpan},
			{2, forever + 1, nil, api.ErrSpan},
			{forever, forever, nil, api.ErrSpan},
			{least, most, nil, api.ErrSpan},
			{most, least, nil, api.ErrSpan},
		}
		for _, x := range tests {
			l, e := edge.Of(r, api.Span{From: x.from, To: x.to})
			expect(t, l, e, x.want, x.e)
			if e == api.OK && !edge.Table(l) {
				t.Fatal(l)
			}
		}
	}
	for _, r := range noRows() {
		for _, s := range []api.Span{{From: 2, To: 5}, {}, {From: -1, To: 5}, {From: 5, To: forever + 1}} { // told ahead of a span that may not be
			if l, e := edge.Of(r, s); len(l) != 0 || e != api.ErrArg {
				t.Fatal(r, s, l, e)
			}
		}
	}
}

// P10.2
func TestJumps(t *testing.T) {
	for _, l := range append(tables(), changes()...) {
		m := modelOf(l)
		for _, r := range append(rows(), one(0), one(3), one(4), one(maxEdges-1), one(maxEdges), one(most), api.Row{text("none")}) {
			if f := edge.Jumps(l, r); !slices.Equal(f, m[row.Key(r)]) {
				t.Fatal(l[:min(len(l), 9)], r, f)
			}
		}
		for _, r := range noRows() {
			if f := edge.Jumps(l, r); len(f) != 0 {
				t.Fatal(r, f)
			}
		}
	}
	for _, l := range none() {
		for _, r := range slices.Concat(rows(), noRows(), []api.Row{one(0), one(3)}) {
			if f := edge.Jumps(l, r); len(f) != 0 {
				t.Fatal(l[:min(len(l), 9)], r, f)
			}
		}
	}
}

// told is what an iterator yields, as edges; each row once, and each with a function.
func told(t *testing.T, groups iter.Seq2[api.Row, []api.Jump]) []api.Edge {
	t.Helper()
	var l []api.Edge
	seen := map[string]int{}
	for r, f := range groups {
		if len(f) == 0 || seen[row.Key(r)] > 0 {
			t.Fatal(r, f)
		}
		seen[row.Key(r)]++
		for _, j := range f {
			l = append(l, api.Edge{Row: slices.Clone(r), At: j.At, Net: j.Net})
		}
	}
	return l
}

// P10.2, and P7: from the beginning each time.
func TestGroups(t *testing.T) {
	for _, l := range append(tables(), changes()...) {
		groups := edge.Groups(l)
		for range 2 {
			if got := told(t, groups); !same(got, l) {
				t.Fatal(got, l)
			}
		}
	}
	for _, l := range append(none(), nil) {
		for r, f := range edge.Groups(l) {
			t.Fatal(r, f)
		}
	}
}

// P7: after the loop is left nothing more is told, and the next one is whole.
func TestGroupsLeft(t *testing.T) {
	l := tables()[len(tables())-1]
	groups := edge.Groups(l)
	for stop := 1; stop <= len(rows()); stop++ {
		n := 0
		groups(func(r api.Row, f []api.Jump) bool {
			n++
			if !slices.Equal(r, rows()[n-1]) {
				t.Fatal(n, r)
			}
			return n < stop
		})
		if n != stop {
			t.Fatal(n, stop)
		}
	}
	for r := range groups {
		for other := range groups { // one within the other
			if !slices.Equal(other, rows()[0]) {
				t.Fatal(r, other)
			}
			break
		}
	}
	if got := told(t, groups); !same(got, l) {
		t.Fatal(got)
	}
}

// P3: an iterator keeps nothing of what it was given, and gives nothing away of what it keeps.
func TestGroupsAreNew(t *testing.T) {
	l := tables()[len(tables())-1]
	want := deep(l)
	groups := edge.Groups(l)
	for i := range l {
		for k := range l[i].Row {
			l[i].Row[k] = number(77)
		}
		l[i] = api.Edge{}
	}
	for range 2 {
		if got := told(t, groups); !same(got, want) {
			t.Fatal(got)
		}
		for r, f := range groups {
			overwriteRow(r)
			for i := range f[:cap(f)] {
				f[:cap(f)][i] = api.Jump{At: 77, Net: 99}
			}
		}
	}
}

// P10.2
func TestBuild(t *testing.T) {
	functions := [][]api.Jump{nil, {}, jumps(1, 1), jumps(before, -3, 2, 1, last, maxNet)}
	var long []api.Jump
	for i := range maxJumps {
		long = append(long, api.Jump{At: i, Net: i + 1})
	}
	functions = append(functions, long)
	for _, r := range rows() {
		for _, f := range functions {
			l := edge.Build(r, f)
			if len(l) != len(f) || !edge.May(l) || !slices.Equal(edge.Jumps(l, r), f) {
				t.Fatal(r, f, l)
			}
			for i, e := range l {
				if !slices.Equal(e.Row, r) || e.At != f[i].At || e.Net != f[i].Net {
					t.Fatal(r, f, l)
				}
			}
		}
		for _, f := range [][]api.Jump{jumps(1, 0), jumps(2, 1, 1, 1), jumps(1, 1, 1, 1), jumps(-2, 1), jumps(forever, 1), jumps(2, 1, forever, -1), jumps(1, maxNet+1), jumps(1, least), append(slices.Clone(long), api.Jump{At: 5000, Net: 1})} {
			if l := edge.Build(r, f); len(l) != 0 {
				t.Fatal(r, f, l)
			}
		}
	}
	for _, r := range noRows() {
		for _, f := range functions {
			if l := edge.Build(r, f); len(l) != 0 {
				t.Fatal(r, f, l)
			}
		}
	}
}

// P10.3: the document's examples, and others.
func TestAdd(t *testing.T) {
	tests := []struct {
		a, b, want []api.Edge
	}{
		{edges(one(1), 2, 1, 5, -1), edges(one(1), 5, 1), edges(one(1), 2, 1)},
		{edges(one(1), 2, 1, 5, -1), edges(one(1), 5, 1, 9, -1), edges(one(1), 2, 1, 9, -1)},
		{edges(one(1), 2, 1, 5, -1), edges(one(2), 5, 1), slices.Concat(edges(one(1), 2, 1, 5, -1), edges(one(2), 5, 1))},
		{edges(one(2), 2, 1), edges(one(1), 2, -1), slices.Concat(edges(one(1), 2, -1), edges(one(2), 2, 1))},
		{edges(one(1), 2, 1, 5, -1), edges(one(1), 3, 1, 4, -1), edges(one(1), 2, 1, 3, 1, 4, -1, 5, -1)},
		{edges(one(1), 2, 1), edges(one(1), 2, -1), nil},
		{slices.Concat(edges(nil, 2, 1), edges(one(1), 2, 1), edges(one(3), 2, 1)), slices.Concat(edges(one(1), 2, -1), edges(one(2), 2, 1)), slices.Concat(edges(nil, 2, 1), edges(one(2), 2, 1), edges(one(3), 2, 1))},
		{nil, nil, nil},
		{nil, edges(one(1), 2, 1), edges(one(1), 2, 1)},
	}
	for _, x := range tests {
		l, e := edge.Add(x.a, x.b)
		expect(t, l, e, x.want, api.OK)
	}
}

// P10.3: row by row; and P10.4: it does not matter which one is first.
func TestAddRowByRow(t *testing.T) {
	all := append(tables(), changes()...)
	room := 0
	for _, a := range all {
		for _, b := range all {
			want, wanted := byRow(a, b, step.Add)
			if wanted == api.OK {
				room++
			}
			l, e := edge.Add(a, b)
			expect(t, l, e, want, wanted)
			l, e = edge.Add(b, a)
			expect(t, l, e, want, wanted)
		}
	}
	if room == 0 || room == len(all)*len(all) {
		t.Fatal(room)
	}
}

// P10.3: at the bounds.
func TestAddRoom(t *testing.T) {
	tests := []struct {
		a, b []api.Edge
		e    api.Errno
	}{
		{edges(one(1), 2, maxNet), edges(one(1), 2, 1), api.ErrFull},
		{edges(one(1), 2, maxNet), edges(one(2), 2, 1), api.OK},
		{edges(one(1), 2, maxNet), edges(one(1), 3, maxNet), api.OK},
		{edges(one(1), 2, -maxNet), edges(one(1), 2, -1), api.ErrFull},
		{saw(one(1), maxJumps, 0), edges(one(1), 5000, 1), api.ErrFull},
		{saw(one(1), maxJumps, 0), edges(one(2), 5000, 1), api.OK},
		{saw(one(1), maxJumps, 0), edges(one(1), 0, -1, 5000, 1), api.OK},
		{full(), edges(one(5), 1, 1), api.ErrFull},
		{full()[:maxEdges-1], edges(one(5), 1, 1), api.OK},
		{full()[1:], edges(nil, 1, 1), api.OK},
		{full(), edges(one(4), 0, -1), api.OK},
		{full(), slices.Concat(edges(one(4), 0, -1), edges(one(5), 1, 1)), api.OK}, // one fewer, one more
		{full(), slices.Concat(edges(one(4), 0, -1), edges(one(5), 1, 1, 2, -1)), api.ErrFull},
		{wide(maxEdges), wide(maxEdges), api.OK},
		{wide(maxEdges), edges(one(maxEdges), 3, 1), api.ErrFull},
		{wide(maxEdges), edges(one(5), 4, 1), api.ErrFull},
	}
	for i, x := range tests {
		l, e := edge.Add(x.a, x.b)
		if e != x.e || (e == api.OK) == (len(l) == 0) || !edge.May(l) {
			t.Error(i, len(l), e)
		}
	}
}

// unary is a call of one list of edges, and what it does to each function.
type unary struct {
	name string
	call func(l []api.Edge) ([]api.Edge, api.Errno)
	op   func(f []api.Jump) ([]api.Jump, api.Errno)
}

// unaries are Neg, and Ahead and Rest at all sorts of places.
func unaries() []unary {
	l := []unary{{"Neg", edge.Neg, step.Neg}}
	for _, at := range append(far(), 2, 3, 4, 5, 6, 9, 20, 500) {
		l = append(l,
			unary{"Ahead", func(l []api.Edge) ([]api.Edge, api.Errno) { return edge.Ahead(l, at) }, func(f []api.Jump) ([]api.Jump, api.Errno) { return step.Ahead(f, at) }},
			unary{"Rest", func(l []api.Edge) ([]api.Edge, api.Errno) { return edge.Rest(l, at) }, func(f []api.Jump) ([]api.Jump, api.Errno) { return step.Rest(f, at) }})
	}
	return l
}

// P10.3: as the functions of the rows.
func TestNegAheadAndRest(t *testing.T) {
	for _, u := range unaries() {
		room := 0
		for _, l := range append(tables(), changes()...) {
			want, wanted := byRow(l, nil, func(f, _ []api.Jump) ([]api.Jump, api.Errno) { return u.op(f) })
			if wanted == api.OK {
				room++
			}
			got, e := u.call(l)
			expect(t, got, e, want, wanted)
		}
		if room == 0 {
			t.Fatal(u.name)
		}
	}
}

// P10.3: some by hand.
func TestNegAheadAndRestOfOne(t *testing.T) {
	l := slices.Concat(edges(one(1), before, 1, 3, -2), edges(one(2), 1, 1))
	got, e := edge.Neg(l)
	expect(t, got, e, slices.Concat(edges(one(1), before, -1, 3, 2), edges(one(2), 1, -1)), api.OK)
	got, e = edge.Ahead(l, 2)
	expect(t, got, e, slices.Concat(edges(one(1), before, 1, 2, -1), edges(one(2), 1, 1, 2, -1)), api.OK)
	got, e = edge.Ahead(l, 1)
	expect(t, got, e, edges(one(1), before, 1, 1, -1), api.OK)
	got, e = edge.Ahead(l, forever)
	expect(t, got, e, l, api.OK)
	got, e = edge.Ahead(l, before)
	expect(t, got, e, nil, api.OK)
	got, e = edge.Rest(l, 2)
	expect(t, got, e, slices.Concat(edges(one(1), before, 1, 3, -2), edges(one(2), before, 1)), api.OK)
	got, e = edge.Rest(l, 7)
	expect(t, got, e, slices.Concat(edges(one(1), before, -1), edges(one(2), before, 1)), api.OK)
	got, e = edge.Rest(edges(one(1), 2, 1, 5, -1), 5)
	expect(t, got, e, edges(one(1), before, 1, 5, -1), api.OK)
	got, e = edge.Rest(edges(one(1), 2, 1, 5, -1), 6)
	expect(t, got, e, nil, api.OK)
	got, e = edge.Rest(l, forever)
	expect(t, got, e, nil, api.OK)
}

// P10.3: a part of a table may need more room than the table.
func TestAheadAndRestRoom(t *testing.T) {
	high := slices.Concat(edges(one(1), 0, 1), edges(one(2), 3, maxNet, 4, 1))
	if l, e := edge.Ahead(high, 5); len(l) != 0 || e != api.ErrFull {
		t.Error(l, e)
	}
	if l, e := edge.Rest(high, 5); len(l) != 0 || e != api.ErrFull {
		t.Error(l, e)
	}
	if l, e := edge.Ahead(high, 4); len(l) != 4 || e != api.OK {
		t.Error(l, e)
	}
	if l, e := edge.Rest(high, 4); len(l) != 3 || e != api.OK {
		t.Error(l, e)
	}
	if l, e := edge.Ahead(wide(maxEdges/2), 5); len(l) != maxEdges || e != api.OK {
		t.Error(len(l), e)
	}
	if l, e := edge.Ahead(wide(maxEdges/2+1), 5); len(l) != 0 || e != api.ErrFull {
		t.Error(len(l), e)
	}
	if l, e := edge.Ahead(wide(maxEdges), 3); len(l) != 0 || e != api.OK {
		t.Error(len(l), e)
	}
	if l, e := edge.Rest(wide(maxEdges), 5); len(l) != maxEdges || e != api.OK {
		t.Error(len(l), e)
	}
}

// P10.3
func TestOfNone(t *testing.T) {
	for _, l := range none() {
		for _, other := range append(none(), nil, edges(one(1), 2, 1), full()) {
			if got, e := edge.Add(l, other); len(got) != 0 || e != api.ErrArg {
				t.Fatal(got, e)
			}
			if got, e := edge.Add(other, l); len(got) != 0 || e != api.ErrArg {
				t.Fatal(got, e)
			}
		}
		for _, u := range unaries() {
			if got, e := u.call(l); len(got) != 0 || e != api.ErrArg {
				t.Fatal(u.name, got, e)
			}
		}
	}
}

// P10.4: to add edges and then their negation has no effect.
func TestAddAndTakeBack(t *testing.T) {
	all := append(tables(), changes()...)
	for _, a := range all {
		for _, b := range all {
			sum, e := edge.Add(a, b)
			if e != api.OK {
				continue
			}
			neg, e := edge.Neg(b)
			if e != api.OK {
				t.Fatal(b, e)
			}
			back, e := edge.Add(sum, neg)
			expect(t, back, e, a, api.OK)
		}
	}
}

// parted is what is ahead of a place, and the rest from it on.
type parted struct{ ahead, rest []api.Edge }

// parts are those of all lists for which there is room.
func parts(all [][]api.Edge, at int) []parted {
	var l []parted
	for _, whole := range all {
		ahead, e := edge.Ahead(whole, at)
		rest, other := edge.Rest(whole, at)
		if e == api.OK && other == api.OK {
			l = append(l, parted{ahead, rest})
		}
	}
	return l
}

// P10.4: two with the same part ahead and the same rest are the same.
func TestPartsAreTheTable(t *testing.T) {
	for _, at := range []int{before, 0, 1, 2, 3, 5, 6, 9, last, forever} {
		l := parts(append(tables(), changes()...), at)
		if len(l) < 20 {
			t.Fatal(at, len(l))
		}
		for i, a := range l {
			for _, b := range l[:i] { // of lists that are all different
				if same(a.ahead, b.ahead) && same(a.rest, b.rest) {
					t.Fatal(at, a, b)
				}
			}
		}
	}
}

// overwriteRow fills all that a row has room for.
func overwriteRow(r api.Row) {
	whole := r[:cap(r)]
	for i := range whole {
		whole[i] = number(99)
	}
}

// overwrite fills, one edge after the other, all that it has room for, and looks whether the others stay; and then all that the list has room for.
func overwrite(t *testing.T, l []api.Edge) {
	t.Helper()
	for i := range l {
		others := deep(l[i+1:])
		overwriteRow(l[i].Row)
		if !same(l[i+1:], others) {
			t.Fatal("two rows of one answer share memory")
		}
	}
	whole := l[:cap(l)]
	for i := range whole {
		whole[i] = api.Edge{Row: one(99), At: 77, Net: 99}
	}
}

// P3: what is told shares no memory with what it is of, nor its rows with each other, and nothing is written behind an argument.
func TestArgumentsStay(t *testing.T) {
	calls := []func(a, b []api.Edge) ([]api.Edge, api.Errno){
		edge.Add,
		func(a, b []api.Edge) ([]api.Edge, api.Errno) { return edge.Norm(a...) },
		func(a, b []api.Edge) ([]api.Edge, api.Errno) { return edge.Neg(a) },
		func(a, b []api.Edge) ([]api.Edge, api.Errno) { return edge.Ahead(a, 4) },
		func(a, b []api.Edge) ([]api.Edge, api.Errno) { return edge.Ahead(a, most) },
		func(a, b []api.Edge) ([]api.Edge, api.Errno) { return edge.Rest(a, 4) },
		func(a, b []api.Edge) ([]api.Edge, api.Errno) { return edge.Rest(a, least) },
		func(a, b []api.Edge) ([]api.Edge, api.Errno) {
			return edge.Build(b[0].Row, jumps(2, 1, 5, -1)), api.OK
		},
		func(a, b []api.Edge) ([]api.Edge, api.Errno) {
			return edge.Of(b[0].Row, api.Span{From: 2, To: 5})
		},
	}
	whole := slices.Concat(edges(one(1), 2, 1, 5, -1, 7, 2), edges(api.Row{number(2), text("a")}, 1, 1, 3, 1), edges(one(5), 2, 1))
	second := slices.Concat(edges(one(1), 3, 1, 6, 1), edges(one(3), 4, 1))
	for i, call := range calls {
		a, b := deep(whole), deep(second)
		for _, left := range [][]api.Edge{a[:5], a[:0], a} {
			for _, right := range [][]api.Edge{b[:2], b} {
				l, e := call(left, right)
				other, _ := call(left, right)
				kept := deep(other)
				if e != api.OK || !same(a, whole) || !same(b, second) {
					t.Fatal(i, e, a, b)
				}
				overwrite(t, l)
				if !same(a, whole) || !same(b, second) || !same(other, kept) {
					t.Fatal(i, "shared")
				}
			}
		}
	}
}

// P3: an order that may not be stays, too, and a function is new.
func TestOthersStay(t *testing.T) {
	l := slices.Concat(edges(one(2), 5, 1, 3, 1), edges(one(1), 2, 1, forever, 1, -2, 1))
	was := deep(l)
	edge.Norm(l[:4]...)
	edge.Norm(l...)
	edge.May(l)
	edge.Table(l)
	if !same(l, was) {
		t.Fatal("put in order where they stood")
	}
	l = slices.Concat(edges(one(1), 2, 1, 5, -1), edges(one(2), 3, 1))
	was = deep(l)
	f := edge.Jumps(l, one(1))
	for i := range f[:cap(f)] {
		f[:cap(f)][i] = api.Jump{At: 77, Net: 99}
	}
	if g := edge.Jumps(l, one(1)); !same(l, was) || !slices.Equal(g, jumps(2, 1, 5, -1)) {
		t.Fatal(l, g)
	}
}
