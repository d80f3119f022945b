package row_test

import (
	"bytes"
	"math"
	"slices"
	"strings"
	"testing"

	"rescind/api"
	"rescind/bin"
	"rescind/row"
	"rescind/value"
)

const (
	most  = math.MaxInt64
	least = math.MinInt64
)

func number(n int) api.Value { return value.Num(n) }

func text(s string) api.Value { return api.Value{Kind: api.Text, Text: s} }

// times is a row of one value, so many times.
func times(count int, v api.Value) api.Row {
	r := make(api.Row, count)
	for i := range r {
		r[i] = v
	}
	return r
}

// ordered are rows, each behind the one ahead of it.
func ordered() []api.Row {
	long := text(strings.Repeat("\xff", 64))
	return []api.Row{
		nil,
		{number(least)},
		{number(least), text("z")},
		{number(-1)},
		{number(0)},
		{number(0), number(least)},
		{number(0), number(0)},
		{number(0), number(0), number(0)},
		times(7, number(0)),
		times(8, number(0)),
		append(times(7, number(0)), number(1)),
		append(times(7, number(0)), text("")),
		{number(0), number(1)},
		{number(0), text("")},
		{number(0), text("a")},
		{number(1)},
		{number(1), text("a")},
		{number(1), text("a"), number(-5)},
		{number(1), text("ab")},
		{number(1), text("b")},
		{number(2), number(-1)},
		{number(most)},
		{text("")},
		{text(""), number(5)},
		{text(""), text("")},
		{text("\x00")},
		{text("1")},
		{text("a")},
		{text("a"), number(most)},
		{text("a"), text("b")},
		{text("ab")},
		{text("\x80")},
		{long},
		times(7, long),
		times(8, long),
	}
}

// none are lists that are no rows.
func none() []api.Row {
	return []api.Row{
		{{}},
		{number(1), {}},
		{{}, number(1)},
		{number(1), {Kind: 3}, number(2)},
		{{Kind: api.Number, Text: "a"}},
		{{Kind: api.Text, Num: 1}},
		{{Kind: -1}},
		{text("a"), text(strings.Repeat("a", 65))},
		append(times(7, number(0)), api.Value{}),
		times(9, number(0)),
		times(10, text("a")),
		times(264, number(0)), // as many as 8, if a byte told it
		times(5000, number(0)),
		make(api.Row, 9),
		append(times(8, number(0)), api.Value{}),
	}
}

// P6.1
func TestMay(t *testing.T) {
	for _, r := range append(ordered(), api.Row{}) {
		if !row.May(r) {
			t.Error(r)
		}
	}
	for _, r := range none() {
		if row.May(r) {
			t.Error(len(r), r)
		}
	}
}

// P6.1, and P6.4: all pairs, so that what comes behind does so from wherever it is looked at, and 0 is told of equal ones only.
func TestCompare(t *testing.T) {
	l := ordered()
	for i, a := range l {
		for j, b := range l {
			want := 0
			if i < j {
				want = -1
			} else if i > j {
				want = 1
			}
			if c := row.Compare(a, slices.Clone(b)); c != want {
				t.Errorf("%v and %v: %d", a, b, c)
			}
		}
	}
	if row.Compare(nil, api.Row{}) != 0 || row.Compare(api.Row{}, nil) != 0 {
		t.Error("a nil row has no values, as an empty one")
	}
}

// P6.1: one that is none is not ahead and not behind, even if a position ahead of what makes it so would decide.
func TestCompareOfNone(t *testing.T) {
	for _, a := range none() {
		for _, b := range slices.Concat(ordered(), none()) {
			if row.Compare(a, b) != 0 || row.Compare(b, a) != 0 {
				t.Errorf("%v and %v", a, b)
			}
		}
	}
}

// short are all rows of at most three of some values.
func short() []api.Row {
	l := []api.Row{nil}
	for i := 0; i < len(l); i++ {
		if len(l[i]) == 3 {
			break
		}
		for _, v := range []api.Value{number(-1), number(2), text(""), text("a")} {
			l = append(l, append(slices.Clone(l[i]), v))
		}
	}
	return l
}

// P6.4: of short rows, all triples.
func TestOrderIsTransitive(t *testing.T) {
	l := short()
	for _, a := range l {
		for _, b := range l {
			x := row.Compare(a, b)
			if row.Compare(b, a) != -x || (x == 0) != row.Same(a, b) {
				t.Fatal(a, b, x)
			}
			if x > 0 {
				continue
			}
			for _, c := range l {
				if row.Compare(b, c) <= 0 && row.Compare(a, c) > 0 {
					t.Fatal(a, b, c)
				}
			}
		}
	}
}

// P6.1: of rows, and of what is none.
func TestSame(t *testing.T) {
	l := append(ordered(), none()...)
	for i, a := range l {
		for j, b := range l {
			if same := row.Same(a, slices.Clone(b)); same != (i == j) {
				t.Errorf("%v and %v: %v", a, b, same)
			}
		}
	}
	if !row.Same(nil, api.Row{}) || !row.Same(api.Row{}, nil) {
		t.Error("a nil row has no values, as an empty one")
	}
	for _, x := range [][2]api.Value{
		{{Kind: api.Number, Num: 1}, {Kind: api.Number, Num: 2}},
		{{Kind: api.Number, Num: 1}, {Kind: api.Number, Num: 1, Text: "a"}},
		{{Kind: api.Text, Text: "a"}, {Kind: api.Text, Text: "b"}},
		{{Kind: api.Text, Text: "a"}, {Kind: api.Text, Text: "a", Num: 1}},
		{{Kind: 0, Num: 1}, {Kind: 0, Num: 2}},
		{{Kind: 3}, {Kind: 4}},
	} {
		if row.Same(api.Row{number(0), x[0]}, api.Row{number(0), x[1]}) {
			t.Error(x)
		}
	}
}

// P6.1: of rows, and of what is none.
func TestCopy(t *testing.T) {
	for _, r := range append(ordered(), none()...) {
		before := slices.Clone(r)
		c := row.Copy(r)
		if !slices.Equal(c, r) {
			t.Fatal(r, c)
		}
		overwrite(c)
		if !slices.Equal(r, before) {
			t.Fatal("shared", before, r)
		}
	}
}

// overwrite fills all that a row has room for.
func overwrite(r api.Row) {
	whole := r[:cap(r)]
	for i := range whole {
		whole[i] = number(99)
	}
}

// P6.2
func TestJoin(t *testing.T) {
	for _, a := range ordered() {
		for _, b := range ordered() {
			j, e := row.Join(a, b)
			if len(a)+len(b) > 8 {
				if len(j) != 0 || e != api.ErrLong {
					t.Fatal(a, b, j, e)
				}
				continue
			}
			if e != api.OK || len(j) != len(a)+len(b) || !slices.Equal(j[:len(a)], a) || !slices.Equal(j[len(a):], b) {
				t.Fatal(a, b, j, e)
			}
		}
	}
}

// P6.2: that one may not be is told ahead of that both are too long.
func TestJoinOfNone(t *testing.T) {
	for _, a := range none() {
		for _, b := range slices.Concat(ordered(), none()) {
			if j, e := row.Join(a, b); len(j) != 0 || e != api.ErrArg {
				t.Fatal(a, b, j, e)
			}
			if j, e := row.Join(b, a); len(j) != 0 || e != api.ErrArg {
				t.Fatal(b, a, j, e)
			}
		}
	}
}

// P6.2
func TestPick(t *testing.T) {
	r := api.Row{number(1), text("a"), number(-3)}
	tests := []struct {
		cols []int
		want api.Row
		e    api.Errno
	}{
		{nil, nil, api.OK},
		{[]int{0}, api.Row{number(1)}, api.OK},
		{[]int{2}, api.Row{number(-3)}, api.OK},
		{[]int{1, 1, 0}, api.Row{text("a"), text("a"), number(1)}, api.OK},
		{[]int{2, 1, 0}, api.Row{number(-3), text("a"), number(1)}, api.OK},
		{[]int{1, 1, 1, 1, 1, 1, 1, 1}, times(8, text("a")), api.OK},
		{[]int{3}, nil, api.ErrRange},
		{[]int{-1}, nil, api.ErrRange},
		{[]int{most}, nil, api.ErrRange},
		{[]int{least}, nil, api.ErrRange},
		{[]int{0, 1, 2, 3}, nil, api.ErrRange},
		{[]int{3, 0}, nil, api.ErrRange},
		{[]int{0, 1, 2, 0, 1, 2, 0, -1}, nil, api.ErrRange},
		{make([]int, 9), nil, api.ErrLong},
		{[]int{0, 0, 0, 0, 0, 0, 0, 0, 5}, nil, api.ErrLong}, // told ahead of a place that is not there
		{[]int{5, 0, 0, 0, 0, 0, 0, 0, 0}, nil, api.ErrLong},
		{make([]int, 5000), nil, api.ErrLong},
	}
	for _, x := range tests {
		if p, e := row.Pick(r, x.cols...); !slices.Equal(p, x.want) || e != x.e {
			t.Errorf("%v: %v, error %d", x.cols, p, e)
		}
	}
	if p, e := row.Pick(nil, 0); len(p) != 0 || e != api.ErrRange {
		t.Error(p, e)
	}
	if p, e := row.Pick(nil); len(p) != 0 || e != api.OK {
		t.Error(p, e)
	}
}

// P6.2: that it is no row is told first.
func TestPickOfNone(t *testing.T) {
	for _, r := range none() {
		for _, cols := range [][]int{nil, {0}, {-1}, {5000}, make([]int, 9)} {
			if p, e := row.Pick(r, cols...); len(p) != 0 || e != api.ErrArg {
				t.Fatal(r, cols, p, e)
			}
		}
	}
}

// P6.2: neither what is joined nor what is picked shares memory with what it is of, nor writes behind it.
func TestNewRows(t *testing.T) {
	whole := api.Row{number(1), text("a"), number(3), number(4), number(5)}
	before := slices.Clone(whole)
	cols := []int{0, 1, 1, 0}
	for range 2 {
		j, _ := row.Join(whole[:2], whole[1:3])
		left, _ := row.Join(whole[:2], nil)
		right, _ := row.Join(nil, whole[:2])
		p, _ := row.Pick(whole[:2], cols[:2]...)
		q, _ := row.Pick(whole[:2], cols[:2]...)
		c := row.Copy(whole[:2])
		if !slices.Equal(whole, before) {
			t.Fatal(whole)
		}
		for _, r := range []api.Row{j, left, right, p, c} {
			overwrite(r)
			if !slices.Equal(whole, before) {
				t.Fatal(whole)
			}
		}
		if !slices.Equal(q, before[:2]) || !slices.Equal(cols, []int{0, 1, 1, 0}) {
			t.Fatal(q, cols)
		}
	}
}

// P6.3
func TestBytes(t *testing.T) {
	tests := []struct {
		r api.Row
		b []byte
	}{
		{nil, []byte{0}},
		{api.Row{}, []byte{0}},
		{api.Row{number(-1)}, []byte{1, 1, 1}},
		{api.Row{number(1), text("a")}, []byte{2, 1, 2, 2, 1, 97}},
		{api.Row{text(""), number(64), text("\x00")}, []byte{3, 2, 0, 1, 128, 1, 2, 1, 0}},
		{times(8, number(0)), append([]byte{8}, bytes.Repeat([]byte{1, 0}, 8)...)},
	}
	for _, x := range tests {
		if b := row.Bytes(x.r); !bytes.Equal(b, x.b) {
			t.Errorf("%v: %v", x.r, b)
		}
		if k := row.Key(x.r); k != string(x.b) {
			t.Errorf("%v: %q", x.r, k)
		}
	}
	for _, r := range none() {
		if b, k := row.Bytes(r), row.Key(r); len(b) != 0 || k != "" {
			t.Errorf("%v: %v, %q", r, b, k)
		}
	}
}

// P6.3: bytes belong to who asked for them, and a key to nobody.
func TestBytesAreNew(t *testing.T) {
	for _, r := range ordered() {
		a, b, k := row.Bytes(r), row.Bytes(r), row.Key(r)
		for i := range a[:cap(a)] {
			a[:cap(a)][i] = 77
		}
		if !bytes.Equal(b, row.Bytes(r)) || string(b) != k {
			t.Fatal(r, b, k)
		}
	}
}

// P6.3, with what is left behind the row
func TestRead(t *testing.T) {
	tests := []struct {
		b    []byte
		r    api.Row
		left int
	}{
		{[]byte{0}, nil, 0},
		{[]byte{0, 1, 1}, nil, 2},
		{[]byte{1, 1, 1, 7}, api.Row{number(-1)}, 1},
		{[]byte{2, 1, 2, 2, 1, 97}, api.Row{number(1), text("a")}, 0},
		{append([]byte{8}, bytes.Repeat([]byte{2, 0}, 9)...), times(8, text("")), 2},
	}
	for _, x := range tests {
		r := bin.NewReader(x.b)
		if l, e := row.Read(r); !slices.Equal(l, x.r) || e != api.OK || r.Left() != x.left || r.Err() != api.OK {
			t.Errorf("%v: %v, error %d, left %d", x.b, l, e, r.Left())
		}
	}
}

// P6.3
func TestReadOfNone(t *testing.T) {
	tests := []struct {
		b []byte
		e api.Errno
	}{
		{nil, api.ErrEnd},
		{[]byte{9}, api.ErrForm},
		{append([]byte{9}, bytes.Repeat([]byte{1, 0}, 9)...), api.ErrForm},
		{[]byte{128}, api.ErrForm},
		{[]byte{129, 0, 1, 1}, api.ErrForm},
		{[]byte{255, 1, 1}, api.ErrForm},
		{[]byte{1}, api.ErrEnd},
		{[]byte{1, 1}, api.ErrEnd},
		{[]byte{1, 0, 1}, api.ErrForm},
		{[]byte{1, 3}, api.ErrForm},
		{[]byte{2, 1, 1}, api.ErrEnd},
		{[]byte{2, 1, 1, 0}, api.ErrForm},
		{[]byte{2, 1, 129, 0, 2, 65}, api.ErrForm}, // the first one that can't be read tells why
		{[]byte{2, 2, 65, 3}, api.ErrLong},
		{[]byte{2, 1, 1, 2, 65}, api.ErrLong},
		{[]byte{3, 1, 1, 2, 2, 'a'}, api.ErrEnd},
		{[]byte{8, 1, 1, 1, 1, 1, 1, 1, 1, 1, 1, 1, 1, 1, 1}, api.ErrEnd},
	}
	for _, x := range tests {
		if l, e := row.Read(bin.NewReader(x.b)); len(l) != 0 || e != x.e {
			t.Errorf("%v: %v, error %d and not %d", x.b, l, e, x.e)
		}
	}
}

// P6.3: a reader that failed tells its own error, ahead of that it has nothing left.
func TestReadOfFailedReader(t *testing.T) {
	form := bin.NewReader([]byte{129, 0, 1, 1})
	form.Num()
	long := bin.NewReader([]byte{5, 1, 1, 1, 1, 1})
	long.Text(4)
	tests := []struct {
		r *bin.Reader
		e api.Errno
	}{{form, api.ErrForm}, {long, api.ErrLong}, {nil, api.ErrNil}}
	for _, x := range tests {
		for range 2 {
			if l, e := row.Read(x.r); len(l) != 0 || e != x.e {
				t.Errorf("%v, error %d and not %d", l, e, x.e)
			}
		}
	}
}

// P6.5: one row behind another.
func TestReadInvertsBytes(t *testing.T) {
	var all []byte
	for _, r := range ordered() {
		b := row.Bytes(r)
		from := bin.NewReader(b)
		if l, e := row.Read(from); !slices.Equal(l, r) || e != api.OK || from.Left() != 0 {
			t.Fatal(r, l, e, from.Left())
		}
		for cut := range b {
			if l, e := row.Read(bin.NewReader(b[:cut])); len(l) != 0 || e != api.ErrEnd {
				t.Fatal(r, cut, l, e)
			}
		}
		all = append(all, b...)
	}
	from := bin.NewReader(all)
	for _, r := range ordered() {
		if l, e := row.Read(from); !slices.Equal(l, r) || e != api.OK {
			t.Fatal(r, l, e)
		}
	}
	if _, e := row.Read(from); e != api.ErrEnd || from.Left() != 0 {
		t.Fatal(e, from.Left())
	}
}

// P6.5
func TestKeys(t *testing.T) {
	seen := map[string]api.Row{}
	for _, r := range slices.Concat(ordered(), short()) {
		k := row.Key(slices.Clone(r))
		if other, ok := seen[k]; ok && !row.Same(other, r) {
			t.Fatal(r, other)
		}
		seen[k] = r
	}
	for k, r := range seen {
		for _, other := range short() {
			if row.Same(r, other) != (k == row.Key(other)) {
				t.Fatal(r, other)
			}
		}
	}
}

// P6.3
func TestShow(t *testing.T) {
	tests := []struct {
		r api.Row
		s string
	}{
		{nil, "()"},
		{api.Row{}, "()"},
		{api.Row{number(-7)}, "(-7)"},
		{api.Row{text("")}, "('')"},
		{api.Row{number(1), text("a")}, "(1, 'a')"},
		{api.Row{text("it's"), text(", "), number(0)}, `('it\27s', ', ', 0)`},
		{times(8, number(0)), "(0, 0, 0, 0, 0, 0, 0, 0)"},
	}
	for _, x := range tests {
		if s := row.Show(x.r); s != x.s {
			t.Errorf("%v is shown as %s", x.r, s)
		}
	}
	for _, r := range none() {
		if s := row.Show(r); s != "" {
			t.Errorf("%v is shown as %q", r, s)
		}
	}
}
