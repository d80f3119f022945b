package snap_test

import (
	"math"
	"slices"
	"strings"
	"testing"

	"rescind/api"
	"rescind/edge"
	"rescind/snap"
	"rescind/value"
)

const (
	most       = math.MaxInt64
	least      = math.MinInt64
	before     = -1
	forever    = 1 << 50
	last       = forever - 1
	maxNet     = 1 << 20
	maxJumps   = 1 << 10
	maxEdges   = 1 << 12
	maxWindows = 1 << 10
)

// of is a row of numbers.
func of(l ...int) api.Row {
	var r api.Row
	for _, n := range l {
		r = append(r, value.Num(n))
	}
	return r
}

// edges are those of a row, by their places and sizes, in turn.
func edges(r api.Row, l ...int) []api.Edge {
	var made []api.Edge
	for i := 0; i < len(l); i += 2 {
		made = append(made, api.Edge{Row: slices.Clone(r), At: l[i], Net: l[i+1]})
	}
	return made
}

// saw is the edges of a row that is there in turn and not, so many, each second instant from a place on.
func saw(r api.Row, count, from int) []api.Edge {
	var l []api.Edge
	for i := range count {
		l = append(l, edges(r, from+2*i, 1-2*(i%2))...)
	}
	return l
}

// stairs are so many edges, each of another row that stays, at one place after the other.
func stairs(count, from int) []api.Edge {
	var l []api.Edge
	for i := range count {
		l = append(l, edges(of(i), from+i, 1)...)
	}
	return l
}

// example is the document's table.
func example() []api.Edge {
	return slices.Concat(edges(of(1), 2, 1, 9, -1), edges(of(2), 5, 1, 7, -1))
}

// window is a part by its lifetime, its rows, and how often each is there.
func window(from, to int, rows ...api.Copy) api.Part {
	return api.Part{Span: api.Span{From: from, To: to}, Rows: rows}
}

func times(n int, r api.Row) api.Copy { return api.Copy{Row: r, N: n} }

// same holds parts against each other, without the program's help.
func same(a, b []api.Part) bool {
	return slices.EqualFunc(a, b, func(x, y api.Part) bool {
		return x.Span == y.Span && slices.EqualFunc(x.Rows, y.Rows, func(c, d api.Copy) bool {
			return c.N == d.N && slices.Equal(c.Row, d.Row)
		})
	})
}

// expect holds both calls' answers against others.
func expect(t *testing.T, l []api.Edge, from int, cuts []int, parts []api.Part) {
	t.Helper()
	if got, e := snap.Cuts(l, from); !slices.Equal(got, cuts) || e != api.OK {
		t.Fatalf("cuts from %d: %v, error %d, and not %v", from, got[:min(len(got), 20)], e, cuts[:min(len(cuts), 20)])
	}
	if got, e := snap.Parts(l, from); !same(got, parts) || e != api.OK {
		t.Fatalf("parts from %d: %v, error %d, and not %v", from, got[:min(len(got), 20)], e, parts[:min(len(parts), 20)])
	}
}

// refuse has both calls answer an error and nothing else.
func refuse(t *testing.T, l []api.Edge, from int, want api.Errno) {
	t.Helper()
	if got, e := snap.Cuts(l, from); len(got) > 0 || e != want {
		t.Fatalf("cuts from %d: %d, error %d, and not %d", from, len(got), e, want)
	}
	if got, e := snap.Parts(l, from); len(got) > 0 || e != want {
		t.Fatalf("parts from %d: %d, error %d, and not %d", from, len(got), e, want)
	}
}

// P27.1, P27.2: the document's examples, and the same table from other ticks on.
func TestExamples(t *testing.T) {
	one, two := of(1), of(2)
	expect(t, example(), 0, []int{0, 2, 5, 7, 9}, []api.Part{window(2, 5, times(1, one)), window(5, 7, times(1, one), times(1, two)), window(7, 9, times(1, one))})
	expect(t, example(), 1, []int{1, 2, 5, 7, 9}, []api.Part{window(2, 5, times(1, one)), window(5, 7, times(1, one), times(1, two)), window(7, 9, times(1, one))})
	expect(t, example(), 2, []int{2, 5, 7, 9}, []api.Part{window(2, 5, times(1, one)), window(5, 7, times(1, one), times(1, two)), window(7, 9, times(1, one))})
	expect(t, example(), 3, []int{3, 5, 7, 9}, []api.Part{window(3, 5, times(1, one)), window(5, 7, times(1, one), times(1, two)), window(7, 9, times(1, one))})
	expect(t, example(), 6, []int{6, 7, 9}, []api.Part{window(6, 7, times(1, one), times(1, two)), window(7, 9, times(1, one))})
	expect(t, example(), 8, []int{8, 9}, []api.Part{window(8, 9, times(1, one))})
	expect(t, example(), 9, []int{9}, nil)
	expect(t, example(), 1000, []int{1000}, nil)
	expect(t, example(), last, []int{last}, nil)
	expect(t, example(), forever, nil, nil)
}

// P27.1, P27.2: tables at the ends of time, with several copies of a row, and without rows.
func TestEdges(t *testing.T) {
	none, one, two := of(), of(1), of(2)
	tests := []struct {
		l     []api.Edge
		from  int
		cuts  []int
		parts []api.Part
	}{
		{nil, 0, []int{0}, nil},
		{[]api.Edge{}, 7, []int{7}, nil},
		{nil, last, []int{last}, nil},
		{nil, forever, nil, nil},
		{edges(one, before, 1), 0, []int{0}, []api.Part{window(0, forever, times(1, one))}},
		{edges(one, before, 1), 4, []int{4}, []api.Part{window(4, forever, times(1, one))}},
		{edges(one, before, 1), last, []int{last}, []api.Part{window(last, forever, times(1, one))}},
		{edges(one, before, 1), forever, nil, nil},
		{edges(one, before, 1, 0, -1), 0, []int{0}, nil},
		{edges(one, before, 3, 0, -1), 0, []int{0}, []api.Part{window(0, forever, times(2, one))}},
		{edges(one, last, 1), 0, []int{0, last}, []api.Part{window(last, forever, times(1, one))}},
		{edges(one, last, 1), last, []int{last}, []api.Part{window(last, forever, times(1, one))}},
		{edges(one, last, 1), last - 1, []int{last - 1, last}, []api.Part{window(last, forever, times(1, one))}},
		{edges(one, 3, 1, last, -1), 3, []int{3, last}, []api.Part{window(3, last, times(1, one))}},
		{edges(one, 3, maxNet, 4, maxNet, 5, -maxNet), 3, []int{3, 4, 5}, []api.Part{window(3, 4, times(maxNet, one)), window(4, 5, times(2*maxNet, one)), window(5, forever, times(maxNet, one))}},
		{edges(one, 3, 2, 5, -1, 8, -1), 0, []int{0, 3, 5, 8}, []api.Part{window(3, 5, times(2, one)), window(5, 8, times(1, one))}},
		{slices.Concat(edges(one, 2, 1, 5, -1), edges(two, 5, 1, 9, -1)), 0, []int{0, 2, 5, 9}, []api.Part{window(2, 5, times(1, one)), window(5, 9, times(1, two))}},
		{slices.Concat(edges(one, 2, 1, 4, -1), edges(two, 6, 1, 9, -1)), 3, []int{3, 4, 6, 9}, []api.Part{window(3, 4, times(1, one)), window(6, 9, times(1, two))}},
		{slices.Concat(edges(none, 2, 1), edges(one, 2, 2), edges(of(1, 0), 2, 3), edges(two, 2, 4)), 2, []int{2}, []api.Part{window(2, forever, times(1, none), times(2, one), times(3, of(1, 0)), times(4, two))}},
	}
	for _, x := range tests {
		expect(t, x.l, x.from, x.cuts, x.parts)
	}
}

// P27.1, P27.2: the form of the edges, then whether they are a table, then the tick.
func TestErrors(t *testing.T) {
	long := of(1, 2, 3, 4, 5, 6, 7, 8, 9)
	forms := [][]api.Edge{
		make([]api.Edge, 1),
		{{}, {}},
		edges(of(1), 6, 0),
		edges(of(1), 6, maxNet+1),
		edges(of(1), 6, least),
		edges(of(1), -2, 1),
		edges(of(1), most, 1),
		edges(of(1), forever, 1),
		edges(of(1), 6, 1, forever, -1),
		edges(of(1), 8, 1, 6, 1),
		edges(of(1), 6, 1, 6, 1),
		edges(long, 6, 1),
		edges(api.Row{{}}, 6, 1),
		edges(api.Row{{Kind: api.Text, Text: strings.Repeat("a", 65)}}, 6, 1),
		slices.Concat(edges(of(2), 6, 1), edges(of(1), 6, 1)),
		slices.Concat(edges(of(1), 6, -1), edges(of(2), 6, 0)),
		saw(of(1), maxJumps+1, 0),
		stairs(maxEdges+1, 0),
	}
	below := [][]api.Edge{
		edges(of(1), 3, -1),
		edges(of(1), before, -1),
		edges(of(1), before, -1, 0, 1),
		edges(of(1), 2, 1, 4, -2),
		edges(of(1), last, -1),
		slices.Concat(edges(of(1), 2, 1), edges(of(2), 3, -1)),
		saw(of(1), 4, 0)[1:],
	}
	times := []int{before, -2, least, forever + 1, most}
	for _, from := range append(times, 0, 5, last, forever) {
		for _, l := range forms {
			refuse(t, l, from, api.ErrArg)
		}
		for _, l := range below {
			refuse(t, l, from, api.ErrBelow)
		}
	}
	for _, from := range times {
		refuse(t, nil, from, api.ErrTime)
		refuse(t, example(), from, api.ErrTime)
		refuse(t, stairs(maxEdges, 0), from, api.ErrTime)
	}
}

// P27.2: as many snapshots with rows as there may be, and one more; those without rows don't count, and there is room for any number of cuts.
func TestFull(t *testing.T) {
	tests := []struct {
		l     []api.Edge
		from  int
		cuts  int
		parts int
		e     api.Errno
	}{
		{stairs(maxWindows, 1), 0, maxWindows + 1, maxWindows, api.OK},
		{stairs(maxWindows+1, 1), 0, maxWindows + 2, 0, api.ErrFull},
		{stairs(maxWindows+1, 1), 1, maxWindows + 1, 0, api.ErrFull},
		{stairs(maxWindows+1, 1), 2, maxWindows, maxWindows, api.OK},
		{stairs(maxWindows+1, 0), maxWindows, 1, 1, api.OK},
		{stairs(maxEdges, 1), 0, maxEdges + 1, 0, api.ErrFull},
		{stairs(maxEdges, 1), forever, 0, 0, api.OK},
		{slices.Concat(saw(of(1), maxJumps, 1), saw(of(2), maxJumps, 1+2*maxJumps)), 0, 2*maxJumps + 1, maxJumps, api.OK},
		{slices.Concat(saw(of(1), maxJumps, 1), saw(of(2), maxJumps-1, 1+2*maxJumps)), 0, 2 * maxJumps, maxJumps, api.OK},
		{slices.Concat(saw(of(1), maxJumps, 1), saw(of(2), maxJumps, 1+2*maxJumps), edges(of(3), 1+4*maxJumps, 1)), 0, 2*maxJumps + 2, 0, api.ErrFull},
		{slices.Concat(saw(of(1), maxJumps, 1), saw(of(2), maxJumps, 1+2*maxJumps), edges(of(3), 1+4*maxJumps, 1)), 2, 2*maxJumps + 1, 0, api.ErrFull},
		{slices.Concat(saw(of(1), maxJumps, 1), saw(of(2), maxJumps, 1+2*maxJumps), edges(of(3), 1+4*maxJumps, 1)), 3, 2 * maxJumps, maxJumps, api.OK},
		{slices.Concat(saw(of(1), maxJumps, 1), saw(of(2), maxJumps, 1)), 0, maxJumps + 1, maxJumps / 2, api.OK},
		{slices.Concat(edges(of(0), 0, 1), saw(of(1), maxJumps, 1)), 0, maxJumps + 1, 0, api.ErrFull},
		{slices.Concat(edges(of(0), 0, 1), saw(of(1), maxJumps, 1)), 1, maxJumps, maxJumps, api.OK},
	}
	for i, x := range tests {
		if cuts, e := snap.Cuts(x.l, x.from); len(cuts) != x.cuts || e != api.OK {
			t.Error(i, "cuts", len(cuts), e)
		}
		if parts, e := snap.Parts(x.l, x.from); len(parts) != x.parts || e != x.e {
			t.Error(i, "parts", len(parts), e)
		}
	}
}

// dice are numbers without a pattern, the same each time.
type dice uint64

func (d *dice) roll(n int) int {
	*d = *d*6364136223846793005 + 1442695040888963407
	return int(uint64(*d)>>33) % n
}

// table is of a few rows at a few instants, from a place on.
func (d *dice) table(base, width int) []api.Edge {
	var l []api.Edge
	for range d.roll(9) {
		r, from, net := of(d.roll(3), d.roll(2))[:d.roll(3)], base+d.roll(width), 1+d.roll(3)
		l = append(l, edges(r, from, net)...)
		if d.roll(4) > 0 {
			l = append(l, edges(r, min(from+1+d.roll(width), forever), -net)...)
		}
	}
	made, e := edge.Norm(l...)
	if e != api.OK || !edge.Table(made) {
		panic(e)
	}
	return made
}

// holds is how often a table has a row at an instant, and whether that is where the row's number changes.
func holds(l []api.Edge, r api.Row, at int) (count int, changes bool) {
	for _, e := range l {
		if slices.Equal(e.Row, r) && e.At <= at {
			count += e.Net
			changes = changes || e.At == at
		}
	}
	return count, changes
}

// rows are those that edges speak of, in their order.
func rows(l []api.Edge) []api.Row {
	var found []api.Row
	for _, e := range l {
		if len(found) == 0 || !slices.Equal(found[len(found)-1], e.Row) {
			found = append(found, e.Row)
		}
	}
	return found
}

// meant is the cuts and the snapshots from a tick on, found tick by tick up to one behind which nothing changes.
func meant(l []api.Edge, from, quiet int) (cuts []int, parts []api.Part) {
	for t := from; t < min(quiet, forever); t++ {
		p, isCut := api.Part{Span: api.Span{From: t, To: forever}}, t == from
		for _, r := range rows(l) {
			count, changes := holds(l, r, t)
			isCut = isCut || changes
			if count > 0 {
				p.Rows = append(p.Rows, times(count, r))
			}
		}
		if !isCut {
			continue
		}
		cuts = append(cuts, t)
		if len(parts) > 0 {
			parts[len(parts)-1].Span.To = t
		}
		parts = append(parts, p)
	}
	return cuts, slices.DeleteFunc(parts, func(p api.Part) bool { return len(p.Rows) == 0 })
}

// P27.1, P27.2: tables held against the meaning, at the first ticks and at the last ones.
func TestMeaning(t *testing.T) {
	d := dice(271)
	for range 5000 {
		l, from := d.table(before, 12), d.roll(15)
		cuts, parts := meant(l, from, 40)
		expect(t, l, from, cuts, parts)
		l, from = d.table(last-12, 13), last-d.roll(15)
		cuts, parts = meant(l, from, forever)
		expect(t, l, from, cuts, parts)
	}
}

// P27.3: at each tick a row is there as often as the one snapshot says that has the tick in it, or else not at all.
func TestTicks(t *testing.T) {
	d := dice(273)
	for range 3000 {
		l, from := d.table(before, 12), d.roll(10)
		parts, e := snap.Parts(l, from)
		if e != api.OK {
			t.Fatal(e)
		}
		for at := from; at < 30; at++ {
			has := slices.DeleteFunc(slices.Clone(parts), func(p api.Part) bool { return p.Span.From > at || p.Span.To <= at })
			if len(has) > 1 {
				t.Fatal(at, has)
			}
			for _, r := range rows(l) {
				told := 0
				for _, p := range has {
					if i := slices.IndexFunc(p.Rows, func(c api.Copy) bool { return slices.Equal(c.Row, r) }); i >= 0 {
						told = p.Rows[i].N
					}
				}
				if count, _ := holds(l, r, at); count != told {
					t.Fatal(at, r, count, told)
				}
			}
		}
	}
}

// P3: arguments are left as they are, and nothing that is told shares memory with them, or with anything else that is.
func TestOwnMemory(t *testing.T) {
	a, b := api.Row{value.Num(1), value.Num(2)}, api.Row{value.Num(3), value.Num(4)}
	spare := append(make([]api.Edge, 0, 9), slices.Concat(edges(a, 2, 1, 9, -1), edges(b, 5, 1, 7, -1))...)
	earlier := slices.Concat(edges(a, 2, 1, 9, -1), edges(b, 5, 1, 7, -1))
	cuts, _ := snap.Cuts(spare, 0)
	parts, _ := snap.Parts(spare, 0)
	other, _ := snap.Parts(spare, 0)
	wanted := []api.Part{window(2, 5, times(1, a)), window(5, 7, times(1, a), times(1, b)), window(7, 9, times(1, a))}
	for i := range parts {
		for k, c := range parts[i].Rows {
			_ = append(c.Row, value.Num(7))
			c.Row[0], c.Row[1] = value.Num(100*i+k), value.Num(8)
			parts[i].Rows[k].N = 50
		}
		_ = append(parts[i].Rows, api.Copy{N: 9})
	}
	cuts[0] = 77
	if !same(other, wanted) {
		t.Fatal("shared with another answer", other)
	}
	for i := range parts {
		for k, c := range parts[i].Rows {
			if c.Row[0].Num != 100*i+k {
				t.Fatal("shared within the answer", parts)
			}
		}
	}
	for i, e := range spare[:cap(spare)] {
		if i < len(earlier) && (!slices.Equal(e.Row, earlier[i].Row) || e.At != earlier[i].At || e.Net != earlier[i].Net) || i >= len(earlier) && (e.Row != nil || e.At != 0 || e.Net != 0) {
			t.Fatal("the argument changed", i, e)
		}
	}
	for i := range spare {
		spare[i].Row[0], spare[i].At = value.Num(55), 1
	}
	if !same(other, wanted) {
		t.Fatal("shared with the argument", other)
	}
}
