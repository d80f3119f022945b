package schema_test

import (
	"bytes"
	"math"
	"slices"
	"strings"
	"testing"

	"rescind/api"
	"rescind/bin"
	"rescind/row"
	"rescind/schema"
	"rescind/value"
)

const (
	most  = math.MaxInt64
	least = math.MinInt64
)

func number(n int) api.Value { return value.Num(n) }

func text(s string) api.Value { return api.Value{Kind: api.Text, Text: s} }

// cols are columns with these names, numbers and texts in turn.
func cols(names ...string) api.Schema {
	s := make(api.Schema, len(names))
	for i, n := range names {
		s[i] = api.Col{Name: n, Kind: api.Number}
		if i%2 == 1 {
			s[i].Kind = api.Text
		}
	}
	return s
}

// schemas are some that may be, all of them different.
func schemas() []api.Schema {
	return []api.Schema{
		cols("a"),
		{{Name: "a", Kind: api.Text}},
		cols("b"),
		cols("a", "b"),
		cols("b", "a"),
		{{Name: "a", Kind: api.Text}, {Name: "b", Kind: api.Text}},
		cols("a", "b", "c"),
		cols("a1", "a2", "a11"),
		cols("z9", "andy", "ornot", "length"),
		cols("x0", strings.Repeat("q", 16), strings.Repeat("q", 15)+"0"),
		cols("a", "b", "c", "d", "e", "f", "g"),
		cols("s", "t", "u", "v", "w", "x", "y", "z"),
		cols("h", "g", "f", "e", "d", "c", "b", "a"),
	}
}

// none are lists that are no schemas.
func none() []api.Schema {
	l := []api.Schema{
		nil,
		{},
		{{}},
		{{Name: "a"}},
		{{Kind: api.Number}},
		{{Name: "a", Kind: 3}},
		{{Name: "a", Kind: -1}},
		{{Name: "a", Kind: 257}}, // as 1, if a byte told it
		{{Name: "a", Kind: most}},
		cols("a", "a"),
		{{Name: "a", Kind: api.Number}, {Name: "a", Kind: api.Number}},
		cols("a", "b", "a"),
		cols("a", "b", "b"),
		cols("a", "b", "c", "d", "e", "f", "g", "a"),
		cols("a", "b", "c", "d", "e", "f", "g", "g"),
		cols("a", "b", "c", "d", "e", "f", "g", "h", "i"),
		append(cols("a", "b", "c", "d", "e", "f", "g"), api.Col{Name: "h"}),
		append(cols("a"), api.Col{}),
		append(api.Schema{{}}, cols("a")...),
		make(api.Schema, 9),
		make(api.Schema, 257),
		make(api.Schema, 5000),
	}
	for _, n := range noNames() {
		l = append(l, cols(n), cols("a", n), cols(n, "a"))
	}
	return l
}

// noNames are texts that are no names.
func noNames() []string {
	l := []string{
		"", " ", "A", "Z", "aB", "1a", "0", "9z", "a_b", "_", "_a", "a ", " a", "a b", "a-b", "a.b", "a\x00", "\x00", "é", "aé", "a\xff",
		"and", "or", "not", "len", strings.Repeat("a", 17), strings.Repeat("a", 272), strings.Repeat("a", 5000),
	}
	for c := range 256 {
		s := string([]byte{byte(c)})
		if strings.Contains("abcdefghijklmnopqrstuvwxyz", s) {
			continue
		}
		l = append(l, s, s+"a")
		if !strings.Contains("0123456789", s) {
			l = append(l, "a"+s, "a"+s+"a")
		}
	}
	return l
}

// P7.1
func TestName(t *testing.T) {
	l := []string{"a", "z", "z9", "a0", "a1b2", "aaaaaaaaaaaaaaaa", "z123456789012345", "ands", "an", "nd", "oror", "o", "r", "nota", "no", "lens", "le", "and0", "xand", "true", "source", "abcdefghijklmnop", "qrstuvwxyz"}
	for c := byte('a'); c <= 'z'; c++ {
		l = append(l, string([]byte{c}), "a"+string([]byte{c}))
	}
	for c := byte('0'); c <= '9'; c++ {
		l = append(l, "a"+string([]byte{c}))
	}
	for _, s := range l {
		if !schema.Name(s) {
			t.Errorf("%q", s)
		}
	}
	for _, s := range noNames() {
		if schema.Name(s) {
			t.Errorf("%q", s)
		}
	}
}

// P7.1
func TestMay(t *testing.T) {
	for _, s := range schemas() {
		if !schema.May(s) {
			t.Error(s)
		}
	}
	for _, s := range none() {
		if schema.May(s) {
			t.Error(len(s), s)
		}
	}
}

// P7.1: of schemas, and of what is none.
func TestSame(t *testing.T) {
	l := append(schemas(), none()...)
	for _, a := range l {
		for _, b := range l {
			if same := schema.Same(a, slices.Clone(b)); same != slices.Equal(a, b) {
				t.Errorf("%v and %v: %v", a, b, same)
			}
		}
	}
	if !schema.Same(nil, api.Schema{}) || !schema.Same(api.Schema{}, nil) {
		t.Error("a nil schema has no columns, as an empty one")
	}
	for _, x := range [][2]api.Col{
		{{Name: "a", Kind: api.Number}, {Name: "a", Kind: api.Text}},
		{{Name: "a", Kind: api.Number}, {Name: "b", Kind: api.Number}},
		{{Name: "A", Kind: api.Number}, {Name: "a", Kind: api.Number}},
		{{Name: "a"}, {Name: "b"}},
		{{Kind: 3}, {Kind: 4}},
	} {
		if schema.Same(api.Schema{x[0]}, api.Schema{x[1]}) || schema.Same(append(cols("x"), x[0]), append(cols("x"), x[1])) {
			t.Error(x)
		}
	}
}

// P7.1: names do not matter, kinds that may not be do.
func TestAlike(t *testing.T) {
	kinds := func(l ...api.Kind) api.Schema {
		s := make(api.Schema, len(l))
		for i, k := range l {
			s[i].Kind = k
		}
		return s
	}
	tests := []struct {
		a, b api.Schema
		want bool
	}{
		{cols("a"), cols("b"), true},
		{cols("a", "b", "c"), cols("c", "b", "a"), true},
		{cols("a", "b"), kinds(1, 2), true},
		{cols("a", "b"), kinds(2, 1), false},
		{cols("a", "b"), kinds(1, 1), false},
		{cols("a", "b"), kinds(1), false},
		{kinds(1), cols("a", "b"), false},
		{cols("a", "b"), kinds(1, 2, 1), false},
		{cols("a", "a"), cols("a", "b"), true},
		{cols("", "A", "len"), cols("x", "y", "z"), true},
		{kinds(0), kinds(0), true},
		{kinds(0), kinds(1), false},
		{kinds(3), kinds(4), false},
		{kinds(-1, 7), append(api.Schema{{Name: "a", Kind: -1}}, kinds(7)...), true},
		{nil, nil, true},
		{nil, api.Schema{}, true},
		{nil, kinds(0), false},
		{kinds(0), api.Schema{}, false},
		{make(api.Schema, 5000), make(api.Schema, 5000), true},
		{make(api.Schema, 5000), make(api.Schema, 5001), false},
	}
	for _, x := range tests {
		if schema.Alike(x.a, x.b) != x.want || schema.Alike(x.b, x.a) != x.want {
			t.Errorf("%v and %v", x.a, x.b)
		}
	}
}

// P7.1
func TestIndex(t *testing.T) {
	tests := []struct {
		s    api.Schema
		name string
		want int
	}{
		{cols("a"), "a", 0},
		{cols("a", "b"), "b", 1},
		{cols("a", "b"), "c", -1},
		{cols("a", "b"), "", -1},
		{cols("a", "b"), "B", -1},
		{cols("ab", "a"), "a", 1},
		{cols("s", "t", "u", "v", "w", "x", "y", "z"), "z", 7},
		{cols("a", "b", "a", "b"), "b", 1}, // the first of those that have it
		{cols("b", "b", "a", "a"), "a", 2},
		{cols("len", "", "len"), "", 1},
		{cols("A", "len"), "len", 1},
		{make(api.Schema, 3), "", 0},
		{make(api.Schema, 5000), "a", -1},
		{append(make(api.Schema, 5000), cols("a")...), "a", 5000},
		{nil, "a", -1},
		{nil, "", -1},
		{api.Schema{}, "a", -1},
	}
	for _, x := range tests {
		if i := schema.Index(x.s, x.name); i != x.want {
			t.Errorf("%v, %q: %d", x.s, x.name, i)
		}
	}
}

// P7.1
func TestFits(t *testing.T) {
	s := cols("a", "b")
	tests := []struct {
		s    api.Schema
		r    api.Row
		want bool
	}{
		{s, api.Row{number(1), text("a")}, true},
		{s, api.Row{number(least), text(strings.Repeat("a", 64))}, true},
		{s, api.Row{text("a"), number(1)}, false},
		{s, api.Row{number(1), number(1)}, false},
		{s, api.Row{text("a"), text("a")}, false},
		{s, api.Row{number(1)}, false},
		{s, api.Row{number(1), text("a"), number(1)}, false},
		{s, nil, false},
		{s, api.Row{number(1), {}}, false},
		{s, api.Row{number(1), text(strings.Repeat("a", 65))}, false}, // of the kind, but no value
		{s, api.Row{{Kind: api.Number, Text: "a"}, text("a")}, false},
		{s, api.Row{number(1), {Kind: api.Text, Num: 1}}, false},
		{cols("a"), api.Row{number(most)}, true},
		{cols("s", "t", "u", "v", "w", "x", "y", "z"), api.Row{number(0), text(""), number(0), text(""), number(0), text(""), number(0), text("")}, true},
		{cols("s", "t", "u", "v", "w", "x", "y", "z"), api.Row{number(0), text(""), number(0), text(""), number(0), text(""), number(0), number(0)}, false},
		{nil, nil, false}, // no schema, though they are as long
		{api.Schema{}, api.Row{}, false},
		{cols("a", "a"), api.Row{number(1), text("a")}, false},
		{cols("len"), api.Row{number(1)}, false},
		{cols("A"), api.Row{number(1)}, false},
		{api.Schema{{Name: "a"}}, api.Row{{}}, false},
		{api.Schema{{Name: "a", Kind: 3}}, api.Row{{Kind: 3}}, false},
		{cols("a", "b", "c", "d", "e", "f", "g", "h", "i"), api.Row{number(0), text(""), number(0), text(""), number(0), text(""), number(0), text(""), number(0)}, false},
		{make(api.Schema, 5000), make(api.Row, 5000), false},
	}
	for _, x := range tests {
		if fits := schema.Fits(x.s, x.r); fits != x.want {
			t.Errorf("%v and %v: %v", x.s, x.r, fits)
		}
	}
}

// P7.2: all pairs, what is too long ahead of what is there twice.
func TestJoin(t *testing.T) {
	for _, a := range schemas() {
		for _, b := range schemas() {
			want := api.OK
			for _, c := range b {
				if schema.Index(a, c.Name) >= 0 {
					want = api.ErrTwice
				}
			}
			if len(a)+len(b) > 8 {
				want = api.ErrLong
			}
			j, e := schema.Join(a, b)
			if e != want {
				t.Fatal(a, b, j, e)
			}
			if e != api.OK && len(j) != 0 {
				t.Fatal(a, b, j)
			}
			if e == api.OK && (!schema.May(j) || !slices.Equal(j, slices.Concat(a, b))) {
				t.Fatal(a, b, j)
			}
		}
	}
}

// P7.2
func TestJoinBounds(t *testing.T) {
	seven := cols("a", "b", "c", "d", "e", "f", "g")
	tests := []struct {
		a, b api.Schema
		want api.Errno
	}{
		{cols("a"), cols("b"), api.OK},
		{seven, cols("h"), api.OK},
		{cols("h"), seven, api.OK},
		{seven, cols("g"), api.ErrTwice},
		{seven, cols("h", "i"), api.ErrLong},
		{seven, cols("a", "b"), api.ErrLong},
		{cols("a", "b"), cols("a", "b"), api.ErrTwice},
		{cols("a", "b"), cols("b", "c"), api.ErrTwice},
		{cols("a"), api.Schema{{Name: "a", Kind: api.Text}}, api.ErrTwice}, // the name counts, and not the kind
	}
	for _, x := range tests {
		if j, e := schema.Join(x.a, x.b); e != x.want || (e == api.OK) != (len(j) > 0) {
			t.Errorf("%v and %v: %v, error %d", x.a, x.b, j, e)
		}
	}
}

// P7.2: that one may not be is told ahead of all else.
func TestJoinOfNone(t *testing.T) {
	for _, a := range none() {
		for _, b := range append(schemas(), a, cols("a", "a"), nil) {
			if j, e := schema.Join(a, b); len(j) != 0 || e != api.ErrSchema {
				t.Fatal(a, b, j, e)
			}
			if j, e := schema.Join(b, a); len(j) != 0 || e != api.ErrSchema {
				t.Fatal(b, a, j, e)
			}
		}
	}
}

// P7.2
func TestPick(t *testing.T) {
	s := append(cols("a", "b"), api.Col{Name: "c", Kind: api.Text})
	a, b, c := s[0], s[1], s[2]
	tests := []struct {
		cols []int
		want api.Schema
		e    api.Errno
	}{
		{nil, nil, api.OK},
		{[]int{}, nil, api.OK},
		{[]int{0}, api.Schema{a}, api.OK},
		{[]int{2}, api.Schema{c}, api.OK},
		{[]int{1, 0}, api.Schema{b, a}, api.OK},
		{[]int{2, 0, 1}, api.Schema{c, a, b}, api.OK},
		{[]int{3}, nil, api.ErrRange},
		{[]int{-1}, nil, api.ErrRange},
		{[]int{most}, nil, api.ErrRange},
		{[]int{least}, nil, api.ErrRange},
		{[]int{0, 1, 2, 3}, nil, api.ErrRange},
		{[]int{0, 0}, nil, api.ErrTwice},
		{[]int{0, 1, 0}, nil, api.ErrTwice},
		{[]int{2, 0, 1, 1}, nil, api.ErrTwice},
		{make([]int, 8), nil, api.ErrTwice},
		{[]int{3, 3}, nil, api.ErrRange},
		{[]int{0, 0, 3}, nil, api.ErrRange}, // a place that is not there is told ahead of one that is there twice
		{[]int{0, 0, 0, 0, 0, 0, 0, -1}, nil, api.ErrRange},
		{make([]int, 9), nil, api.ErrLong},
		{[]int{0, 0, 0, 0, 0, 0, 0, 0, 5}, nil, api.ErrLong},
		{[]int{-1, 1, 2, 3, 4, 5, 6, 7, 8}, nil, api.ErrLong},
		{make([]int, 5000), nil, api.ErrLong},
	}
	for _, x := range tests {
		if p, e := schema.Pick(s, x.cols...); !slices.Equal(p, x.want) || e != x.e {
			t.Errorf("%v: %v, error %d", x.cols, p, e)
		}
	}
	whole := cols("s", "t", "u", "v", "w", "x", "y", "z")
	if p, e := schema.Pick(whole, 7, 6, 5, 4, 3, 2, 1, 0); e != api.OK || schema.Show(p) != "z text, y number, x text, w number, v text, u number, t text, s number" {
		t.Error(p, e)
	}
}

// P7.2: that it is no schema is told first.
func TestPickOfNone(t *testing.T) {
	for _, s := range none() {
		for _, cols := range [][]int{nil, {0}, {0, 0}, {-1}, {5000}, make([]int, 9)} {
			if p, e := schema.Pick(s, cols...); len(p) != 0 || e != api.ErrSchema {
				t.Fatal(s, cols, p, e)
			}
		}
	}
}

// overwrite fills all that a schema has room for.
func overwrite(s api.Schema) {
	whole := s[:cap(s)]
	for i := range whole {
		whole[i] = api.Col{Name: "over", Kind: 99}
	}
}

// P7.2: neither what is joined nor what is picked shares memory with what it is of, nor writes behind it.
func TestNewSchemas(t *testing.T) {
	whole := cols("a", "b", "c", "d", "e")
	before := slices.Clone(whole)
	places := []int{1, 0, 1, 1}
	for range 2 {
		j, _ := schema.Join(whole[:2], whole[2:4])
		k, _ := schema.Join(whole[:2], whole[2:4])
		p, _ := schema.Pick(whole[:2], places[:2]...)
		q, _ := schema.Pick(whole[:2], places[:2]...)
		if !slices.Equal(whole, before) {
			t.Fatal(whole)
		}
		overwrite(j)
		overwrite(p)
		if !slices.Equal(whole, before) || !slices.Equal(k, before[:4]) || !slices.Equal(q, api.Schema{before[1], before[0]}) {
			t.Fatal(whole, k, q)
		}
		if !slices.Equal(places, []int{1, 0, 1, 1}) {
			t.Fatal(places)
		}
	}
}

// P7.3
func TestBytes(t *testing.T) {
	long := strings.Repeat("q", 16)
	tests := []struct {
		s api.Schema
		b []byte
	}{
		{cols("a"), []byte{1, 1, 97, 1}},
		{api.Schema{{Name: "z9", Kind: api.Text}}, []byte{1, 2, 'z', '9', 2}},
		{cols("a", "b"), []byte{2, 1, 97, 1, 1, 98, 2}},
		{api.Schema{{Name: long, Kind: api.Text}}, append(append([]byte{1, 16}, long...), 2)},
		{cols("s", "t", "u", "v", "w", "x", "y", "z"), []byte("\x08\x01s\x01\x01t\x02\x01u\x01\x01v\x02\x01w\x01\x01x\x02\x01y\x01\x01z\x02")},
	}
	for _, x := range tests {
		if b := schema.Bytes(x.s); !bytes.Equal(b, x.b) {
			t.Errorf("%v: %v", x.s, b)
		}
	}
	for _, s := range none() {
		if b := schema.Bytes(s); len(b) != 0 {
			t.Errorf("%v: %v", s, b)
		}
	}
}

// P7.3: bytes belong to who asked for them, and so does a schema that is read.
func TestBytesAreNew(t *testing.T) {
	for _, s := range schemas() {
		a, b := schema.Bytes(s), schema.Bytes(s)
		from := slices.Clone(a)
		x, _ := schema.Read(bin.NewReader(from))
		y, _ := schema.Read(bin.NewReader(from))
		clear(a[:cap(a)])
		overwrite(x)
		if !bytes.Equal(b, schema.Bytes(s)) || !bytes.Equal(b, from) || !slices.Equal(y, s) {
			t.Fatal(s, b, from, y)
		}
	}
}

// P7.3, with what is left behind the schema
func TestRead(t *testing.T) {
	tests := []struct {
		b    []byte
		s    api.Schema
		left int
	}{
		{[]byte{1, 1, 97, 1}, cols("a"), 0},
		{[]byte{1, 1, 97, 1, 1, 98, 2}, cols("a"), 3},
		{[]byte{2, 1, 97, 1, 1, 98, 2, 0}, cols("a", "b"), 1},
		{append(append([]byte{1, 16}, strings.Repeat("q", 16)...), 1, 7, 7), cols(strings.Repeat("q", 16)), 2},
	}
	for _, x := range tests {
		r := bin.NewReader(x.b)
		if s, e := schema.Read(r); !slices.Equal(s, x.s) || e != api.OK || r.Left() != x.left || r.Err() != api.OK {
			t.Errorf("%v: %v, error %d, left %d", x.b, s, e, r.Left())
		}
	}
}

// P7.3
func TestReadOfNone(t *testing.T) {
	seventeen := append([]byte{1, 17}, strings.Repeat("a", 17)...)
	tests := []struct {
		b []byte
		e api.Errno
	}{
		{nil, api.ErrEnd},
		{[]byte{}, api.ErrEnd},
		{[]byte{0}, api.ErrForm},
		{[]byte{0, 1, 97, 1}, api.ErrForm},
		{[]byte{9}, api.ErrForm},
		{[]byte("\x09\x01s\x01\x01t\x02\x01u\x01\x01v\x02\x01w\x01\x01x\x02\x01y\x01\x01z\x02\x01a\x01"), api.ErrForm},
		{[]byte{129, 0, 1, 97, 1}, api.ErrForm},
		{[]byte{255}, api.ErrForm},
		{[]byte{1}, api.ErrEnd},
		{[]byte{1, 1}, api.ErrEnd},
		{[]byte{1, 1, 97}, api.ErrEnd},
		{[]byte{2, 1, 97, 1}, api.ErrEnd},
		{[]byte{2, 1, 97, 1, 1, 98}, api.ErrEnd},
		{[]byte{1, 3, 97, 98}, api.ErrEnd},
		{[]byte{1, 128}, api.ErrEnd},
		{[]byte{1, 129, 0, 97, 1}, api.ErrForm}, // a length in more bytes than it takes
		{append(seventeen, 1), api.ErrLong},
		{[]byte{1, 17}, api.ErrLong},
		{[]byte{1, 255, 127}, api.ErrLong},
		{[]byte{2, 1, 97, 1, 17}, api.ErrLong},
		{[]byte{1, 1, 'A', 1}, api.ErrSchema},
		{[]byte{1, 0, 1}, api.ErrSchema},
		{[]byte{1, 1, '1', 1}, api.ErrSchema},
		{[]byte{1, 3, 'l', 'e', 'n', 1}, api.ErrSchema},
		{[]byte{1, 1, 97, 0}, api.ErrSchema},
		{[]byte{1, 1, 97, 3}, api.ErrSchema},
		{[]byte{1, 1, 97, 129}, api.ErrSchema},
		{[]byte{1, 1, 97, 255}, api.ErrSchema},
		{[]byte{2, 1, 97, 1, 1, 97, 2}, api.ErrSchema},
		{[]byte{2, 1, 'A', 0, 1}, api.ErrEnd}, // what can't be read is told ahead of what may not be
		{[]byte{2, 1, 'A', 0, 17, 98, 1}, api.ErrLong},
		{[]byte{3, 1, 97, 1, 17, 98, 1, 129, 0}, api.ErrLong}, // the first element that can't be read
		{[]byte{3, 1, 97, 1, 129, 0, 1, 17}, api.ErrForm},
	}
	for _, x := range tests {
		if s, e := schema.Read(bin.NewReader(x.b)); len(s) != 0 || e != x.e {
			t.Errorf("%v: %v, error %d and not %d", x.b, s, e, x.e)
		}
	}
}

// P7.3: a reader that failed tells its own error, ahead of that it has nothing left.
func TestReadOfFailedReader(t *testing.T) {
	form := bin.NewReader([]byte{129, 0, 1, 1, 97, 1})
	form.Num()
	long := bin.NewReader([]byte{5, 1, 1, 97, 1, 1})
	long.Text(4)
	tests := []struct {
		r *bin.Reader
		e api.Errno
	}{{form, api.ErrForm}, {long, api.ErrLong}, {nil, api.ErrNil}}
	for _, x := range tests {
		for range 2 {
			if s, e := schema.Read(x.r); len(s) != 0 || e != x.e {
				t.Errorf("%v, error %d and not %d", s, e, x.e)
			}
		}
	}
}

// P7.4: one schema behind another.
func TestReadInvertsBytes(t *testing.T) {
	var all []byte
	for _, s := range schemas() {
		b := schema.Bytes(s)
		for cut := range b {
			if l, e := schema.Read(bin.NewReader(b[:cut])); len(l) != 0 || e != api.ErrEnd {
				t.Fatal(s, cut, l, e)
			}
		}
		all = append(all, b...)
	}
	from := bin.NewReader(all)
	for _, s := range schemas() {
		if l, e := schema.Read(from); !slices.Equal(l, s) || e != api.OK {
			t.Fatal(s, l, e)
		}
	}
	if _, e := schema.Read(from); e != api.ErrEnd || from.Left() != 0 {
		t.Fatal(e, from.Left())
	}
}

// P7.3
func TestShow(t *testing.T) {
	tests := []struct {
		s    api.Schema
		want string
	}{
		{cols("a"), "a number"},
		{api.Schema{{Name: "z9", Kind: api.Text}}, "z9 text"},
		{cols("a", "b"), "a number, b text"},
		{cols("b", "a", "c"), "b number, a text, c number"},
	}
	for _, x := range tests {
		if s := schema.Show(x.s); s != x.want {
			t.Errorf("%v is shown as %s", x.s, s)
		}
	}
	for _, s := range none() {
		if shown := schema.Show(s); shown != "" {
			t.Errorf("%v is shown as %q", s, shown)
		}
	}
}

// fitting is a row of a schema.
func fitting(s api.Schema) api.Row {
	var r api.Row
	for i, c := range s {
		v := number(i)
		if c.Kind == api.Text {
			v = text(c.Name)
		}
		r = append(r, v)
	}
	return r
}

// P7.4: what is joined of rows that fit does so, too.
func TestJoinedRowsFit(t *testing.T) {
	for _, a := range schemas() {
		for _, b := range schemas() {
			j, e := schema.Join(a, b)
			if e != api.OK {
				continue
			}
			r, e := row.Join(fitting(a), fitting(b))
			if e != api.OK || !schema.Fits(a, fitting(a)) || !schema.Fits(b, fitting(b)) || !schema.Fits(j, r) {
				t.Fatal(a, b, j, r, e)
			}
		}
	}
}

// P7.4: so does what is picked, unless nothing is: no columns are no schema.
func TestPickedRowsFit(t *testing.T) {
	for _, s := range schemas() {
		n := len(s)
		for i := range n {
			for j := range n {
				for _, cols := range [][]int{{i}, {i, j}, {j, i}, {i, j, n - 1}} {
					p, e := schema.Pick(s, cols...)
					if e != api.OK {
						continue
					}
					r, e := row.Pick(fitting(s), cols...)
					if e != api.OK || !schema.Fits(p, r) {
						t.Fatal(s, cols, p, r, e)
					}
				}
			}
		}
	}
}

// P7.1 to P7.3: nothing that is handed in changes.
func TestArgumentsStay(t *testing.T) {
	for _, s := range append(schemas(), none()...) {
		before := slices.Clone(s)
		r := fitting(s)
		schema.May(s)
		schema.Same(s, before)
		schema.Alike(s, before)
		schema.Index(s, "q")
		schema.Fits(s, r)
		schema.Join(s, s)
		schema.Pick(s, 0)
		schema.Bytes(s)
		schema.Show(s)
		if !slices.Equal(s, before) || !slices.Equal(r, fitting(before)) {
			t.Fatal(before, s, r)
		}
	}
}
