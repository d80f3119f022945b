package tally_test

import (
	"math"
	"math/big"
	"slices"
	"strconv"
	"strings"
	"testing"

	"rescind/api"
	"rescind/row"
	"rescind/schema"
	"rescind/tally"
	"rescind/value"
)

const (
	most   = math.MaxInt64
	least  = math.MinInt64
	maxNet = 1 << 20
)

// columns are a number and a text.
func columns() api.Schema {
	return api.Schema{{Name: "a", Kind: api.Number}, {Name: "b", Kind: api.Text}}
}

// all is an aggregate of each kind, the two that may be of texts twice.
func all() []api.Agg {
	return []api.Agg{{Kind: api.Count, Name: "n"}, {Kind: api.Min, Col: 1, Name: "lo"}, {Kind: api.Max, Col: 1, Name: "hi"}, {Kind: api.Min, Name: "c"}, {Kind: api.Max, Name: "d"}, {Kind: api.East, Name: "e"}, {Kind: api.North, Name: "f"}, {Kind: api.Start, Name: "g"}}
}

func one(k api.AggKind, col int) api.Agg { return api.Agg{Kind: k, Col: col, Name: "x"} }

func text(t *testing.T, s string) api.Value {
	t.Helper()
	v, e := value.Text(s)
	if e != api.OK {
		t.Fatal(s, e)
	}
	return v
}

// pair is a row of columns.
func pair(t *testing.T, n int, s string) api.Row {
	t.Helper()
	return api.Row{value.Num(n), text(t, s)}
}

func begin(t *testing.T, s api.Schema, aggs ...api.Agg) *tally.Tally {
	t.Helper()
	m, e := tally.New(s, aggs...)
	if m == nil || e != api.OK {
		t.Fatal("new:", e)
	}
	return m
}

func put(t *testing.T, m *tally.Tally, r api.Row, n int, want api.Errno) {
	t.Helper()
	if e := m.Put(r, n); e != want {
		t.Fatalf("put %s %d times: error %d, and not %d", row.Show(r), n, e, want)
	}
}

// expect holds the row of a tally against the one that must be.
func expect(t *testing.T, m *tally.Tally, start int, want string, wanted api.Errno) {
	t.Helper()
	r, e := m.Row(start)
	if e != wanted || e != api.OK && r != nil {
		t.Fatalf("%s, error %d, and not %s, error %d", row.Show(r), e, want, wanted)
	}
	if e == api.OK && row.Show(r) != want {
		t.Fatalf("%s, and not %s", row.Show(r), want)
	}
}

// P26.1: the columns of each kind of aggregate.
func TestCols(t *testing.T) {
	tests := []struct {
		aggs []api.Agg
		want string
	}{
		{all(), "n number, lo text, hi text, c number, d number, e number, f number, g number"},
		{[]api.Agg{{Kind: api.Sum, Name: "s"}}, "s number"},
		{[]api.Agg{{Kind: api.Max, Col: 1, Name: "b"}, {Kind: api.Min, Col: 1, Name: "a"}}, "b text, a text"},
		{[]api.Agg{{Kind: api.Sum, Name: "a123456789012345"}, {Kind: api.Sum, Name: "z"}, {Kind: api.Start, Name: "z9"}}, "a123456789012345 number, z number, z9 number"},
		{nil, ""},
	}
	for _, test := range tests {
		s, e := tally.Cols(columns(), test.aggs...)
		if schema.Show(s) != test.want || len(s) != len(test.aggs) || e != api.OK {
			t.Errorf("%s, error %d, and not %s", schema.Show(s), e, test.want)
		}
		begin(t, columns(), test.aggs...)
	}
}

// P26.1: each error, and the one that is named first of several.
func TestErrors(t *testing.T) {
	good := one(api.Sum, 0)
	named := func(name string) api.Agg { return api.Agg{Kind: api.Count, Name: name} }
	kind := func(k api.AggKind, col int, name string) api.Agg { return api.Agg{Kind: k, Col: col, Name: name} }
	tests := []struct {
		s    api.Schema
		aggs []api.Agg
		e    api.Errno
	}{
		{nil, nil, api.ErrSchema},
		{api.Schema{}, []api.Agg{good}, api.ErrSchema},
		{api.Schema{{Name: "A", Kind: api.Number}}, []api.Agg{good}, api.ErrSchema},
		{api.Schema{{Name: "a", Kind: 3}}, []api.Agg{good}, api.ErrSchema},
		{append(columns(), columns()...), []api.Agg{good}, api.ErrSchema},
		{nil, make([]api.Agg, 9), api.ErrSchema},
		{columns(), append(all(), good), api.ErrLong},
		{columns(), make([]api.Agg, 9), api.ErrLong},
		{columns(), make([]api.Agg, 8), api.ErrArg},
		{columns(), []api.Agg{one(api.NoAgg, 0)}, api.ErrArg},
		{columns(), []api.Agg{one(8, 0)}, api.ErrArg},
		{columns(), []api.Agg{one(-1, 0)}, api.ErrArg},
		{columns(), []api.Agg{one(most, 0)}, api.ErrArg},
		{columns(), []api.Agg{one(least, 0)}, api.ErrArg},
		{columns(), []api.Agg{named("")}, api.ErrArg},
		{columns(), []api.Agg{named("len")}, api.ErrArg},
		{columns(), []api.Agg{named("A")}, api.ErrArg},
		{columns(), []api.Agg{named("1a")}, api.ErrArg},
		{columns(), []api.Agg{named("a_b")}, api.ErrArg},
		{columns(), []api.Agg{named("a1234567890123456")}, api.ErrArg},
		{columns(), []api.Agg{one(api.Count, 1)}, api.ErrArg},
		{columns(), []api.Agg{one(api.Count, 2)}, api.ErrArg},
		{columns(), []api.Agg{one(api.Count, -1)}, api.ErrArg},
		{columns(), []api.Agg{one(api.Start, 1)}, api.ErrArg},
		{columns(), []api.Agg{one(api.Start, most)}, api.ErrArg},
		{columns(), []api.Agg{one(api.Sum, 2)}, api.ErrRange},
		{columns(), []api.Agg{one(api.Sum, -1)}, api.ErrRange},
		{columns(), []api.Agg{one(api.Min, 2)}, api.ErrRange},
		{columns(), []api.Agg{one(api.Max, most)}, api.ErrRange},
		{columns(), []api.Agg{one(api.East, least)}, api.ErrRange},
		{columns(), []api.Agg{one(api.North, 8)}, api.ErrRange},
		{columns(), []api.Agg{one(api.Sum, 1)}, api.ErrKind},
		{columns(), []api.Agg{one(api.East, 1)}, api.ErrKind},
		{columns(), []api.Agg{one(api.North, 1)}, api.ErrKind},
		{columns()[1:], []api.Agg{one(api.Sum, 0)}, api.ErrKind},
		{columns()[1:], []api.Agg{one(api.Sum, 1)}, api.ErrRange},
		{columns(), []api.Agg{good, good}, api.ErrTwice},
		{columns(), []api.Agg{good, one(api.Max, 1)}, api.ErrTwice},
		{columns(), []api.Agg{good, named("y"), named("z"), named("y")}, api.ErrTwice},
		// several of one aggregate
		{columns(), []api.Agg{one(8, 2)}, api.ErrArg},
		{columns(), []api.Agg{kind(api.Sum, 2, "not")}, api.ErrArg},
		{columns(), []api.Agg{kind(api.Sum, 1, "not")}, api.ErrArg},
		{columns(), []api.Agg{good, one(api.Count, 1)}, api.ErrArg},
		{columns(), []api.Agg{good, one(8, 0)}, api.ErrArg},
		{columns(), []api.Agg{good, one(api.Sum, 2)}, api.ErrRange},
		{columns(), []api.Agg{good, one(api.Sum, 1)}, api.ErrKind},
		// several aggregates
		{columns(), []api.Agg{one(api.Sum, 1), one(8, 0)}, api.ErrKind},
		{columns(), []api.Agg{one(api.Sum, 2), one(api.Sum, 1)}, api.ErrRange},
		{columns(), []api.Agg{good, good, one(8, 0)}, api.ErrTwice},
		{columns(), []api.Agg{good, named("or"), good}, api.ErrArg},
		{columns(), []api.Agg{good, one(api.Sum, 2), good}, api.ErrRange},
	}
	for i, test := range tests {
		if s, e := tally.Cols(test.s, test.aggs...); s != nil || e != test.e {
			t.Errorf("%d: %s, error %d, and not %d", i, schema.Show(s), e, test.e)
		}
		if m, e := tally.New(test.s, test.aggs...); m != nil || e != test.e {
			t.Errorf("%d: new: error %d, and not %d", i, e, test.e)
		}
	}
}

// P26.2 and P26.3: the document's examples.
func TestExamples(t *testing.T) {
	m := begin(t, columns()[:1], api.Agg{Kind: api.Count, Name: "n"}, api.Agg{Kind: api.Sum, Name: "s"})
	expect(t, m, 0, "", api.ErrNone)
	put(t, m, api.Row{value.Num(5)}, 2, api.OK)
	put(t, m, api.Row{value.Num(-1)}, 1, api.OK)
	expect(t, m, 0, "(3, 9)", api.OK)
	put(t, m, api.Row{value.Num(5)}, -2, api.OK)
	put(t, m, api.Row{value.Num(-1)}, -1, api.OK)
	expect(t, m, 0, "", api.ErrNone)
}

// P26.2: each aggregate by hand.
func TestRow(t *testing.T) {
	m := begin(t, columns(), all()...)
	steps := []struct {
		a, n  int
		b     string
		start int
		want  string
	}{
		{5, 2, "y", 70, "(2, 'y', 'y', 5, 5, 0, 2, 70)"},
		{-1, 1, "x", 0, "(3, 'x', 'y', -1, 5, 0, 1, 0)"},
		{10, 3, "y", -1, "(6, 'x', 'y', -1, 10, -3, 1, -1)"},
		{7, 0, "a", most, "(6, 'x', 'y', -1, 10, -3, 1, 9223372036854775807)"},
		{-1, -1, "x", least, "(5, 'y', 'y', 5, 10, -3, 2, -9223372036854775808)"},
		{4, 1, "xx", 1, "(6, 'xx', 'y', 4, 10, -2, 2, 1)"},
		{4, 1, "", 2, "(7, '', 'y', 4, 10, -1, 2, 2)"},
		{10, -3, "y", 3, "(4, '', 'y', 4, 5, 2, 2, 3)"},
		{5, -2, "y", 4, "(2, '', 'xx', 4, 4, 2, 0, 4)"},
		{least, 1, "\xff", 5, "(3, '', '\\ff', -9223372036854775808, 4, 3, 0, 5)"},
	}
	for _, s := range steps {
		put(t, m, pair(t, s.a, s.b), s.n, api.OK)
		expect(t, m, s.start, s.want, api.OK)
		expect(t, m, s.start, s.want, api.OK)
	}
	if m.Count() != 3 {
		t.Error(m.Count())
	}
}

// P26.2: a tally of no aggregates has rows, and tells an empty one of them.
func TestNoAggregates(t *testing.T) {
	m := begin(t, columns())
	expect(t, m, 3, "", api.ErrNone)
	put(t, m, pair(t, 1, "a"), 3, api.OK)
	put(t, m, pair(t, 1, "b"), -1, api.ErrBelow)
	expect(t, m, 3, "()", api.OK)
	if m.Count() != 3 {
		t.Error(m.Count())
	}
}

// P26.2: two starts may have different names, and tell one number.
func TestStarts(t *testing.T) {
	m := begin(t, columns(), api.Agg{Kind: api.Start, Name: "a"}, api.Agg{Kind: api.Start, Name: "b"})
	put(t, m, pair(t, 1, "a"), 1, api.OK)
	for _, start := range []int{0, 5, -1, api.Forever, most, least} {
		want := strconv.Itoa(start)
		expect(t, m, start, "("+want+", "+want+")", api.OK)
	}
}

// P26.2: what is no row of the schema, ahead of all other errors.
func TestFits(t *testing.T) {
	m := begin(t, columns(), all()...)
	good := pair(t, 5, "y")
	put(t, m, good, 1, api.OK)
	long := api.Value{Kind: api.Text, Text: strings.Repeat("a", 65)}
	for _, r := range []api.Row{nil, {}, good[:1], good[1:], {good[1], good[0]}, {good[0], good[0]}, {good[1], good[1]}, append(good[:2:2], good[0]), {good[0], long}, {{Kind: api.Number, Text: "a"}, good[1]}, {good[0], {Kind: api.Text, Num: 1}}, {{}, {}}, make(api.Row, 9)} {
		for _, n := range []int{0, 1, -1, maxNet, -maxNet, maxNet + 1, -maxNet - 1, most, least} {
			put(t, m, r, n, api.ErrSchema)
		}
	}
	expect(t, m, 7, "(1, 'y', 'y', 5, 5, 0, 1, 7)", api.OK)
	put(t, m, api.Row{good[0], {Kind: api.Text, Text: strings.Repeat("a", 64)}}, 1, api.OK)
}

// P26.2: each error at the number at which it begins to apply; nothing changes with it.
func TestPutErrors(t *testing.T) {
	type step struct {
		r, n int
		e    api.Errno
	}
	tests := [][]step{
		{{1, maxNet + 1, api.ErrArg}, {1, -maxNet - 1, api.ErrArg}, {1, most, api.ErrArg}, {1, least, api.ErrArg}, {1, -maxNet, api.ErrBelow}, {1, maxNet, api.OK}, {1, maxNet, api.ErrFull}, {1, -maxNet, api.OK}},
		{{1, -1, api.ErrBelow}, {1, 0, api.OK}, {1, -1, api.ErrBelow}, {1, 1, api.OK}, {2, -1, api.ErrBelow}, {1, -2, api.ErrBelow}, {1, -1, api.OK}, {1, -1, api.ErrBelow}},
		{{1, maxNet - 1, api.OK}, {2, 2, api.ErrFull}, {2, 1, api.OK}, {3, 1, api.ErrFull}, {3, -1, api.ErrBelow}, {1, 1, api.ErrFull}, {1, -1, api.OK}, {3, 2, api.ErrFull}, {3, 1, api.OK}, {1, 1, api.ErrFull}},
		{{1, maxNet, api.OK}, {2, maxNet, api.ErrFull}, {2, 0, api.OK}, {2, maxNet + 1, api.ErrArg}, {1, -maxNet - 1, api.ErrArg}, {1, -maxNet, api.OK}, {2, maxNet, api.OK}},
		{{1, 5, api.OK}, {2, 5, api.OK}, {1, -6, api.ErrBelow}, {2, -6, api.ErrBelow}, {1, -5, api.OK}, {1, -1, api.ErrBelow}, {2, -5, api.OK}},
	}
	for i, test := range tests {
		m, r := begin(t, columns(), all()...), &record{}
		for j, s := range test {
			k := pair(t, s.r, strings.Repeat("a", s.r))
			if e := m.Put(k, s.n); e != s.e {
				t.Fatalf("%d, %d: error %d, and not %d", i, j, e, s.e)
			}
			if e := r.put(k, s.n); e != s.e {
				t.Fatalf("%d, %d: the record's error %d, and not %d", i, j, e, s.e)
			}
			compare(t, m, r, all(), j)
		}
	}
}

// P26.2 and P26.3: a sum fails if it does not fit, and then alone.
func TestSum(t *testing.T) {
	type entry struct{ v, n int }
	tests := []struct {
		l    []entry
		want string
		e    api.Errno
	}{
		{[]entry{{most, 1}}, "9223372036854775807", api.OK},
		{[]entry{{least, 1}}, "-9223372036854775808", api.OK},
		{[]entry{{most, 2}}, "", api.ErrOver},
		{[]entry{{least, 2}}, "", api.ErrOver},
		{[]entry{{most, 1}, {1, 1}}, "", api.ErrOver},
		{[]entry{{least, 1}, {-1, 1}}, "", api.ErrOver},
		{[]entry{{most, 1}, {1, 1}, {-1, 1}}, "9223372036854775807", api.OK},
		{[]entry{{least, 1}, {-1, 1}, {1, 1}}, "-9223372036854775808", api.OK},
		{[]entry{{most, maxNet / 2}, {least, maxNet / 2}}, strconv.Itoa(-maxNet / 2), api.OK},
		{[]entry{{least, maxNet / 2}, {most, maxNet / 2}}, strconv.Itoa(-maxNet / 2), api.OK},
		{[]entry{{most, maxNet}}, "", api.ErrOver},
		{[]entry{{least, maxNet}}, "", api.ErrOver},
		{[]entry{{most, maxNet}, {most, -maxNet}, {3, 2}}, "6", api.OK},
		{[]entry{{least, maxNet}, {least, 1 - maxNet}}, "-9223372036854775808", api.OK},
		{[]entry{{1 << 62, 2}}, "", api.ErrOver},
		{[]entry{{1 << 62, 2}, {-1, 1}}, "9223372036854775807", api.OK},
		{[]entry{{-1 << 62, 2}}, "-9223372036854775808", api.OK},
		{[]entry{{1 << 62, 4}, {0, 1}}, "", api.ErrOver}, // 2^64, whose last 64 bits are all 0
		{[]entry{{1 << 43, maxNet}}, "", api.ErrOver},
		{[]entry{{1<<43 - 1, maxNet}}, strconv.Itoa(1<<63 - maxNet), api.OK},
	}
	for i, test := range tests {
		m := begin(t, columns(), api.Agg{Kind: api.Start, Name: "at"}, api.Agg{Kind: api.Sum, Name: "s"}, api.Agg{Kind: api.Count, Name: "n"})
		others := begin(t, columns(), all()...)
		count := 0
		for _, x := range test.l {
			put(t, m, pair(t, x.v, "a"), x.n, api.OK)
			put(t, others, pair(t, x.v, "a"), x.n, api.OK)
			count += x.n
		}
		expect(t, m, i, "("+strconv.Itoa(i)+", "+test.want+", "+strconv.Itoa(count)+")", test.e)
		if _, e := others.Row(0); e != api.OK || m.Count() != count {
			t.Errorf("%v: error %d of others, %d rows", test.l, e, m.Count())
		}
	}
}

// P26.2: rows with one value in the column are different rows.
func TestSameValue(t *testing.T) {
	m := begin(t, columns(), api.Agg{Kind: api.Min, Name: "lo"}, api.Agg{Kind: api.Max, Col: 1, Name: "hi"}, api.Agg{Kind: api.Count, Name: "n"})
	put(t, m, pair(t, 1, "a"), 1, api.OK)
	put(t, m, pair(t, 1, "b"), 1, api.OK)
	put(t, m, pair(t, 2, "b"), 1, api.OK)
	put(t, m, pair(t, 1, "a"), -2, api.ErrBelow)
	put(t, m, pair(t, 2, "a"), -1, api.ErrBelow)
	put(t, m, pair(t, 1, "b"), -1, api.OK)
	expect(t, m, 0, "(1, 'b', 2)", api.OK)
	put(t, m, pair(t, 1, "b"), -1, api.ErrBelow)
	put(t, m, pair(t, 1, "a"), -1, api.OK)
	expect(t, m, 0, "(2, 'b', 1)", api.OK)
}

// P3 and P26.1: a tally does not hang on what it was made of, nor on what it answered.
func TestOwnMemory(t *testing.T) {
	s, aggs := columns(), all()
	m := begin(t, s, aggs...)
	cols, _ := tally.Cols(s, aggs...)
	if !schema.Same(s, columns()) || !slices.Equal(aggs, all()) {
		t.Error("arguments changed")
	}
	clear(s)
	clear(aggs)
	again, _ := tally.Cols(columns(), all()...)
	if !schema.Same(cols, again) {
		t.Error(schema.Show(cols))
	}
	r := pair(t, 5, "y")
	put(t, m, r, 1, api.OK)
	clear(r)
	put(t, m, pair(t, 3, "x"), 1, api.OK)
	want := "(2, 'x', 'y', 3, 5, 0, 0, 8)"
	told, _ := m.Row(8)
	clear(told)
	expect(t, m, 8, want, api.OK)
	other := begin(t, columns(), all()...)
	put(t, other, pair(t, 9, "z"), 4, api.OK)
	expect(t, m, 8, want, api.OK)
	put(t, m, pair(t, 5, "y"), -1, api.OK)
	put(t, m, pair(t, 3, "x"), -1, api.OK)
	expect(t, m, 8, "", api.ErrNone)
}

// P26.2
func TestNil(t *testing.T) {
	var m *tally.Tally
	for _, n := range []int{0, 1, -1, maxNet + 1, most, least} {
		for _, r := range []api.Row{nil, pair(t, 1, "a")} {
			if e := m.Put(r, n); e != api.ErrNil {
				t.Error("put", n, e)
			}
		}
		if r, e := m.Row(n); r != nil || e != api.ErrNil {
			t.Error("row", n, e)
		}
	}
	if m.Count() != 0 {
		t.Error(m.Count())
	}
}

// record is what was put, without an order; what a tally must answer is worked out of it by the words of the document.
type record struct{ copies []api.Copy }

func (r *record) find(k api.Row) int {
	return slices.IndexFunc(r.copies, func(c api.Copy) bool { return row.Same(c.Row, k) })
}

func (r *record) count() int {
	n := 0
	for _, c := range r.copies {
		n += c.N
	}
	return n
}

func (r *record) put(k api.Row, n int) api.Errno {
	i, old := r.find(k), 0
	if i >= 0 {
		old = r.copies[i].N
	}
	switch {
	case n > maxNet || n < -maxNet:
		return api.ErrArg
	case old+n < 0:
		return api.ErrBelow
	case r.count()+n > maxNet:
		return api.ErrFull
	}
	if i < 0 {
		i = len(r.copies)
		r.copies = append(r.copies, api.Copy{Row: row.Copy(k)})
	}
	r.copies[i].N += n
	r.copies = slices.DeleteFunc(r.copies, func(c api.Copy) bool { return c.N == 0 })
	return api.OK
}

// result is the value of an aggregate, and whether it fits.
func (r *record) result(a api.Agg, start int) (api.Value, bool) {
	var values []api.Value
	total, x, y := new(big.Int), 0, 0
	for _, c := range r.copies {
		v := c.Row[a.Col]
		values = append(values, v)
		total.Add(total, new(big.Int).Mul(big.NewInt(int64(v.Num)), big.NewInt(int64(c.N))))
		turn := (v.Num%4 + 4) % 4
		x += []int{1, 0, -1, 0}[turn] * c.N
		y += []int{0, 1, 0, -1}[turn] * c.N
	}
	switch a.Kind {
	case api.Count:
		return value.Num(r.count()), true
	case api.Sum:
		return value.Num(int(total.Int64())), total.IsInt64()
	case api.Min:
		return slices.MinFunc(values, value.Compare), true
	case api.Max:
		return slices.MaxFunc(values, value.Compare), true
	case api.East:
		return value.Num(x), true
	case api.North:
		return value.Num(y), true
	}
	return value.Num(start), true
}

func (r *record) row(aggs []api.Agg, start int) (api.Row, api.Errno) {
	if r.count() == 0 {
		return nil, api.ErrNone
	}
	var l api.Row
	for _, a := range aggs {
		v, ok := r.result(a, start)
		if !ok {
			return nil, api.ErrOver
		}
		l = append(l, v)
	}
	return l, api.OK
}

// compare holds a tally against the record.
func compare(t *testing.T, m *tally.Tally, r *record, aggs []api.Agg, start int) {
	t.Helper()
	want, e := r.row(aggs, start)
	expect(t, m, start, row.Show(want), e)
	if m.Count() != r.count() {
		t.Fatalf("%d rows, and not %d", m.Count(), r.count())
	}
}

// P26.2 and P26.3: all short sequences of what is put in and taken out.
func TestShort(t *testing.T) {
	const steps = 4
	aggs := []api.Agg{{Kind: api.Sum, Name: "s"}, {Kind: api.Min, Name: "lo"}, {Kind: api.Max, Col: 1, Name: "hi"}, {Kind: api.East, Name: "e"}, {Kind: api.North, Name: "f"}, {Kind: api.Count, Name: "n"}}
	puts := []api.Copy{{Row: pair(t, 5, "a"), N: 1}, {Row: pair(t, 5, "a"), N: -1}, {Row: pair(t, 5, "b"), N: 2}, {Row: pair(t, 5, "b"), N: -1}, {Row: pair(t, most, "a"), N: 1}, {Row: pair(t, most, "a"), N: -1}, {Row: pair(t, -2, ""), N: maxNet - 1}, {Row: pair(t, -2, ""), N: -2}}
	codes := 1
	for range steps {
		codes *= len(puts)
	}
	for code := range codes {
		m, r := begin(t, columns(), aggs...), &record{}
		for range steps {
			x := puts[code%len(puts)]
			code /= len(puts)
			put(t, m, x.Row, x.N, r.put(x.Row, x.N))
		}
		compare(t, m, r, aggs, code)
	}
}

// dice are numbers without a pattern, the same each time.
type dice uint64

func (d *dice) roll(n int) int {
	*d = *d*6364136223846793005 + 1442695040888963407
	return int(uint64(*d)>>33) % n
}

// anyRow is one of few rows, with numbers that are small or at the ends.
func anyRow(t *testing.T, d *dice) api.Row {
	t.Helper()
	n := d.roll(9) - 4
	if d.roll(4) == 0 {
		n = []int{least, least + 1, most, most - 1, 1 << 62, -1 << 62}[d.roll(6)]
	}
	return pair(t, n, []string{"", "a", "ab", "b", "\x00"}[d.roll(5)])
}

// P26.1 to P26.3: long sequences, with aggregates of all kinds in any order.
func TestLong(t *testing.T) {
	d := dice(1)
	for round := range 100 {
		var aggs []api.Agg
		for i := range d.roll(9) {
			a := api.Agg{Kind: api.AggKind(1 + d.roll(7)), Name: "x" + strconv.Itoa(i)}
			if a.Kind == api.Min || a.Kind == api.Max {
				a.Col = d.roll(2)
			}
			aggs = append(aggs, a)
		}
		m, r := begin(t, columns(), aggs...), &record{}
		size := 3
		if round%3 == 0 {
			size = maxNet / 4 // so that there is no room now and then
		}
		for step := range 150 {
			k, n := anyRow(t, &d), d.roll(size)
			switch d.roll(8) {
			case 0:
				n = maxNet - r.count()
			case 1:
				n = d.roll(3*maxNet) - 3*maxNet/2
			case 2, 3:
				n = -n
			case 4:
				if i := r.find(k); i >= 0 {
					n = -r.copies[i].N
				}
			}
			put(t, m, k, n, r.put(k, n))
			compare(t, m, r, aggs, step-20)
		}
	}
}

// P26.3: what was put can be removed again, and the order in which rows are put does not matter.
func TestOrderOfPuts(t *testing.T) {
	d := dice(2)
	aggs := append(all()[1:], one(api.Sum, 0))
	for range 100 {
		base := anyRow(t, &d)
		first := begin(t, columns(), aggs...)
		put(t, first, base, 3, api.OK)
		before, e := first.Row(1)
		var l []api.Copy
		for range 1 + d.roll(30) {
			l = append(l, api.Copy{Row: anyRow(t, &d), N: 1 + d.roll(20000)})
		}
		second := begin(t, columns(), aggs...)
		for _, x := range l {
			put(t, first, x.Row, x.N, api.OK)
		}
		for i := range l {
			j := i + d.roll(len(l)-i)
			l[i], l[j] = l[j], l[i]
			put(t, second, l[i].Row, l[i].N, api.OK)
		}
		put(t, second, base, 3, api.OK)
		want, wanted := first.Row(1)
		expect(t, second, 1, row.Show(want), wanted)
		for _, m := range []*tally.Tally{first, second} {
			for _, x := range l {
				put(t, m, x.Row, -x.N, api.OK)
			}
			expect(t, m, 1, row.Show(before), e)
			put(t, m, base, -3, api.OK)
			expect(t, m, 1, "", api.ErrNone)
		}
	}
}

// P26.2: many different rows, as many as a table has edges.
func TestMany(t *testing.T) {
	m := begin(t, columns(), all()...)
	count := api.MaxEdges
	for i := range count {
		put(t, m, pair(t, i*7919%count, ""), 1, api.OK)
	}
	expect(t, m, 1, "(4096, '', '', 0, 4095, 0, 0, 1)", api.OK)
	for i := range count - 1 {
		put(t, m, pair(t, i, ""), -1, api.OK)
		if r, e := m.Row(0); e != api.OK || r[3].Num != i+1 || r[0].Num != count-1-i {
			t.Fatal(i, row.Show(r), e)
		}
	}
}
