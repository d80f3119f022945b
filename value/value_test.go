package value_test

import (
	"bytes"
	"fmt"
	"math"
	"slices"
	"strings"
	"testing"

	"rescind/api"
	"rescind/bin"
	"rescind/num"
	"rescind/value"
)

const (
	most  = math.MaxInt64
	least = math.MinInt64
)

// textOf is a text that is not too long.
func textOf(s string) api.Value { return api.Value{Kind: api.Text, Text: s} }

// ordered are values of all sorts, each behind the one ahead of it.
func ordered() []api.Value {
	var l []api.Value
	for _, n := range []int{least, least + 1, -1 << 32, -65, -2, -1, 0, 1, 2, 9, 10, 64, 1 << 32, most - 1, most} {
		l = append(l, value.Num(n))
	}
	texts := []string{
		"", "\x00", "\x00\x00", "\x00a", "\x1f", " ", "!", "&", "'", "''", "(", "-1", "0", "10", "9", "A", "[", "\\", "\\27", "]", "a", "a\x00", "aa",
		"aaa", "ab", "b", "it's", "~", "\x7f", "\x80", "\x80a", "é", "\xff", "\xff\xfe", "\xff\xff", strings.Repeat("\xff", 63), strings.Repeat("\xff", 64),
	}
	for _, s := range texts {
		l = append(l, textOf(s))
	}
	return l
}

// none are structs that are no values.
func none() []api.Value {
	return []api.Value{
		{},
		{Num: 5},
		{Text: "a"},
		{Kind: 3},
		{Kind: -1},
		{Kind: 3, Num: 1},
		{Kind: most, Text: "a"},
		{Kind: least},
		{Kind: api.Number, Text: "a"},
		{Kind: api.Number, Num: 5, Text: "a"},
		{Kind: api.Number, Text: "\x00"},
		{Kind: api.Text, Num: 1},
		{Kind: api.Text, Num: -1, Text: "a"},
		{Kind: api.Text, Num: least, Text: "a"},
		{Kind: api.Text, Text: strings.Repeat("a", 65)},
		{Kind: api.Text, Text: strings.Repeat("a", 5000)},
	}
}

// P5.1
func TestNum(t *testing.T) {
	for _, n := range []int{least, -1, 0, 1, 300, most} {
		if v := value.Num(n); v != (api.Value{Kind: api.Number, Num: n}) || !value.May(v) {
			t.Fatal(n, v)
		}
	}
}

// P5.1
func TestText(t *testing.T) {
	for _, s := range []string{"", "a", "it's", "\x00\xff", "é", strings.Repeat("x", 63), strings.Repeat("\xff", 64)} {
		v, e := value.Text(s)
		if v != textOf(s) || e != api.OK || !value.May(v) {
			t.Fatalf("%q: %v, error %d", s, v, e)
		}
	}
	// bytes count, and not letters
	for _, s := range []string{strings.Repeat("x", 65), strings.Repeat("é", 33), strings.Repeat("\x00", 66), strings.Repeat("x", 1<<16), strings.Repeat("x", 1<<20)} {
		if v, e := value.Text(s); v != (api.Value{}) || e != api.ErrLong {
			t.Fatal(len(s), v, e)
		}
	}
}

// P5.1
func TestMay(t *testing.T) {
	for _, v := range ordered() {
		if !value.May(v) {
			t.Error(v)
		}
	}
	for _, v := range none() {
		if value.May(v) {
			t.Error(v)
		}
	}
}

// P5.1, and P5.4: all pairs, so that what comes behind does so from wherever it is looked at, and 0 is told of equal ones only.
func TestCompare(t *testing.T) {
	l := ordered()
	for i, a := range l {
		for j, b := range l {
			want := 0
			if i < j {
				want = -1
			} else if i > j {
				want = 1
			}
			if c := value.Compare(a, b); c != want {
				t.Errorf("%v and %v: %d", a, b, c)
			}
		}
	}
}

// P5.1
func TestCompareOfNone(t *testing.T) {
	for _, a := range none() {
		for _, b := range slices.Concat(ordered(), none()) {
			if value.Compare(a, b) != 0 || value.Compare(b, a) != 0 {
				t.Errorf("%v and %v", a, b)
			}
		}
	}
}

// P5.4: of short texts, all triples.
func TestOrderIsTransitive(t *testing.T) {
	l := []api.Value{value.Num(-1), value.Num(0), value.Num(7)}
	for _, s := range []string{"", "\x00", "'", "a", "\xff"} {
		for _, end := range []string{"", "\x00", "b", "\xff"} {
			l = append(l, textOf(s+end))
		}
	}
	for _, a := range l {
		for _, b := range l {
			x := value.Compare(a, b)
			if value.Compare(b, a) != -x || (x == 0) != (a == b) {
				t.Fatal(a, b, x)
			}
			for _, c := range l {
				if x <= 0 && value.Compare(b, c) <= 0 && value.Compare(a, c) > 0 {
					t.Fatal(a, b, c)
				}
			}
		}
	}
}

// P5.2
func TestBytes(t *testing.T) {
	tests := []struct {
		v api.Value
		b []byte
	}{
		{value.Num(0), []byte{1, 0}},
		{value.Num(-1), []byte{1, 1}},
		{value.Num(1), []byte{1, 2}},
		{value.Num(-64), []byte{1, 127}},
		{value.Num(64), []byte{1, 128, 1}},
		{value.Num(most), []byte{1, 254, 255, 255, 255, 255, 255, 255, 255, 255, 1}},
		{value.Num(least), []byte{1, 255, 255, 255, 255, 255, 255, 255, 255, 255, 1}},
		{textOf(""), []byte{2, 0}},
		{textOf("a"), []byte{2, 1, 'a'}},
		{textOf("it's"), []byte{2, 4, 'i', 't', '\'', 's'}},
		{textOf("\x00\xff\\"), []byte{2, 3, 0, 255, '\\'}},
		{textOf(strings.Repeat("z", 64)), append([]byte{2, 64}, strings.Repeat("z", 64)...)},
	}
	for _, x := range tests {
		if b := value.Bytes(x.v); !bytes.Equal(b, x.b) {
			t.Errorf("%v: %v", x.v, b)
		}
	}
	for _, v := range none() {
		if b := value.Bytes(v); len(b) != 0 {
			t.Errorf("%v: %v", v, b)
		}
	}
}

// P5.2: bytes belong to who asked for them.
func TestBytesAreNew(t *testing.T) {
	for _, v := range ordered() {
		a, b := value.Bytes(v), value.Bytes(v)
		clear(a[:cap(a)])
		if c := value.Bytes(v); b[0] == 0 || !bytes.Equal(b, c) {
			t.Fatal(v, b, c)
		}
	}
}

// P5.2, with what is left behind the value
func TestRead(t *testing.T) {
	tests := []struct {
		b    []byte
		v    api.Value
		left int
	}{
		{[]byte{1, 1}, value.Num(-1), 0},
		{[]byte{1, 0, 1, 2}, value.Num(0), 2},
		{[]byte{1, 128, 1, 0}, value.Num(64), 1},
		{[]byte{2, 0}, textOf(""), 0},
		{[]byte{2, 0, 'x'}, textOf(""), 1},
		{[]byte{2, 2, 'a', 'b', 'c'}, textOf("ab"), 1},
		{[]byte{2, 2, 0, 255}, textOf("\x00\xff"), 0},
		{append([]byte{2, 64}, strings.Repeat("y", 65)...), textOf(strings.Repeat("y", 64)), 1},
		{append([]byte{1}, bin.Int(least)...), value.Num(least), 0},
		{append([]byte{1}, bin.Int(most)...), value.Num(most), 0},
	}
	for _, x := range tests {
		r := bin.NewReader(x.b)
		if v, e := value.Read(r); v != x.v || e != api.OK || r.Left() != x.left || r.Err() != api.OK {
			t.Errorf("%v: %v, error %d, left %d", x.b, v, e, r.Left())
		}
	}
}

// P5.2
func TestReadOfNone(t *testing.T) {
	tests := []struct {
		b []byte
		e api.Errno
	}{
		{nil, api.ErrEnd},
		{[]byte{}, api.ErrEnd},
		{[]byte{0}, api.ErrForm},
		{[]byte{0, 1, 1}, api.ErrForm},
		{[]byte{3}, api.ErrForm},
		{[]byte{3, 1, 'a'}, api.ErrForm},
		{[]byte{128}, api.ErrForm},
		{[]byte{129, 1}, api.ErrForm},
		{[]byte{255, 255}, api.ErrForm},
		{[]byte{1}, api.ErrEnd},
		{[]byte{1, 128}, api.ErrEnd},
		{[]byte{1, 129, 0}, api.ErrForm},
		{append(append([]byte{1}, bytes.Repeat([]byte{255}, 9)...), 2), api.ErrForm},
		{append(append([]byte{1}, bytes.Repeat([]byte{255}, 10)...), 0), api.ErrForm},
		{[]byte{2}, api.ErrEnd},
		{[]byte{2, 128}, api.ErrEnd},
		{[]byte{2, 129, 0, 'a'}, api.ErrForm},
		{[]byte{2, 2, 'a'}, api.ErrEnd},
		{append([]byte{2, 64}, strings.Repeat("a", 63)...), api.ErrEnd},
		{[]byte{2, 65}, api.ErrLong},
		{append([]byte{2, 65}, strings.Repeat("a", 65)...), api.ErrLong},
		{[]byte{2, 128, 1}, api.ErrLong},
		{append(append([]byte{2}, bytes.Repeat([]byte{255}, 8)...), 127), api.ErrLong},
		{append([]byte{2}, bytes.Repeat([]byte{255}, 9)...), api.ErrForm}, // a length that is no number
	}
	for _, x := range tests {
		if v, e := value.Read(bin.NewReader(x.b)); v != (api.Value{}) || e != x.e {
			t.Errorf("%v: %v, error %d and not %d", x.b, v, e, x.e)
		}
	}
}

// P5.2: a reader that failed tells its own error, ahead of that it has nothing left.
func TestReadOfFailedReader(t *testing.T) {
	form := bin.NewReader([]byte{129, 0, 1, 1})
	form.Num()
	long := bin.NewReader([]byte{5, 1, 1, 1, 1, 1})
	long.Text(4)
	end := bin.NewReader([]byte{9, 1})
	end.Text(64)
	tests := []struct {
		r *bin.Reader
		e api.Errno
	}{{form, api.ErrForm}, {long, api.ErrLong}, {end, api.ErrEnd}, {nil, api.ErrNil}}
	for _, x := range tests {
		for range 2 {
			if v, e := value.Read(x.r); v != (api.Value{}) || e != x.e {
				t.Errorf("%v, error %d and not %d", v, e, x.e)
			}
		}
	}
}

// P5.5: one value behind another.
func TestReadInvertsBytes(t *testing.T) {
	var all []byte
	for _, v := range ordered() {
		b := value.Bytes(v)
		r := bin.NewReader(b)
		if w, e := value.Read(r); w != v || e != api.OK || r.Left() != 0 {
			t.Fatal(v, w, e, r.Left())
		}
		for cut := range b {
			if w, e := value.Read(bin.NewReader(b[:cut])); w != (api.Value{}) || e != api.ErrEnd {
				t.Fatal(v, cut, w, e)
			}
		}
		all = append(all, b...)
	}
	r := bin.NewReader(all)
	for _, v := range ordered() {
		if w, e := value.Read(r); w != v || e != api.OK {
			t.Fatal(v, w, e)
		}
	}
	if _, e := value.Read(r); e != api.ErrEnd || r.Left() != 0 {
		t.Fatal(e, r.Left())
	}
}

// P5.3
func TestShow(t *testing.T) {
	tests := []struct {
		v api.Value
		s string
	}{
		{value.Num(0), "0"},
		{value.Num(1200), "1200"},
		{value.Num(-7), "-7"},
		{value.Num(least), "-9223372036854775808"},
		{textOf(""), "''"},
		{textOf("7"), "'7'"},
		{textOf("a b"), "'a b'"},
		{textOf("it's"), `'it\27s'`},
		{textOf("'"), `'\27'`},
		{textOf(`\`), `'\5c'`},
		{textOf(`\27`), `'\5c27'`},
		{textOf("\"`"), "'\"`'"},
		{textOf("\x00\x09\x0a\x1f ~\x7f\x80\xab\xff"), `'\00\09\0a\1f ~\7f\80\ab\ff'`},
		{textOf("é"), `'\c3\a9'`},
	}
	for _, x := range tests {
		if s := value.Show(x.v); s != x.s {
			t.Errorf("%v is shown as %s", x.v, s)
		}
	}
	for _, v := range none() {
		if s := value.Show(v); s != "" {
			t.Errorf("%v is shown as %q", v, s)
		}
	}
}

// written is how the document has a byte written in a text.
func written(c byte) string {
	if 32 <= c && c <= 126 && c != 39 && c != 92 {
		return string([]byte{c})
	}
	return fmt.Sprintf("\\%02x", c)
}

// P5.3: each byte is written in one of its two ways, and read in that one alone.
func TestEachByte(t *testing.T) {
	for i := range 256 {
		c := byte(i)
		v := textOf("a" + string([]byte{c}) + "b")
		s := "'a" + written(c) + "b'"
		if x := value.Show(v); x != s {
			t.Errorf("byte %d is shown as %s", i, x)
		}
		if x, e := value.Parse(s); x != v || e != api.OK {
			t.Errorf("%s is read as %v, error %d", s, x, e)
		}
		for _, other := range []string{string([]byte{c}), fmt.Sprintf("\\%02x", c), fmt.Sprintf("\\%02X", c)} {
			if other == written(c) {
				continue
			}
			if x, e := value.Parse("'a" + other + "b'"); x != (api.Value{}) || e != api.ErrForm {
				t.Errorf("'a%sb' is read as %v, error %d", other, x, e)
			}
		}
	}
}

// P5.3
func TestParse(t *testing.T) {
	tests := []struct {
		s string
		v api.Value
	}{
		{"0", value.Num(0)},
		{"-7", value.Num(-7)},
		{"9223372036854775807", value.Num(most)},
		{"-9223372036854775808", value.Num(least)},
		{"''", textOf("")},
		{"'7'", textOf("7")},
		{"' '", textOf(" ")},
		{`'\00\5c'`, textOf("\x00\\")},
		{`'\27'`, textOf("'")},
		{`'it\27s'`, textOf("it's")},
		{`'\ffa\0a0'`, textOf("\xffa\n0")},
		{"'" + strings.Repeat("a", 64) + "'", textOf(strings.Repeat("a", 64))},
		{"'" + strings.Repeat(`\80`, 64) + "'", textOf(strings.Repeat("\x80", 64))}, // 64 bytes are meant, and 192 written
	}
	for _, x := range tests {
		if v, e := value.Parse(x.s); v != x.v || e != api.OK {
			t.Errorf("%s is read as %v, error %d", x.s, v, e)
		}
	}
}

// P5.3
func TestParseOfNone(t *testing.T) {
	long := strings.Repeat("a", 65)
	tests := []struct {
		s string
		e api.Errno
	}{
		{"", api.ErrForm},
		{"'", api.ErrForm},
		{"'a", api.ErrForm},
		{"a'", api.ErrForm},
		{"a", api.ErrForm},
		{"'''", api.ErrForm},
		{"'a'b'", api.ErrForm},
		{"'a' ", api.ErrForm},
		{" 'a'", api.ErrForm},
		{"'a''", api.ErrForm},
		{`"a"`, api.ErrForm},
		{`'\'`, api.ErrForm},
		{`'\\'`, api.ErrForm},
		{`'\''`, api.ErrForm},
		{`'\2'`, api.ErrForm},
		{`'\2`, api.ErrForm},
		{`'\27`, api.ErrForm},
		{`'a\'`, api.ErrForm},
		{`'a\0'`, api.ErrForm},
		{`'\0g'`, api.ErrForm},
		{`'\g0'`, api.ErrForm},
		{`'\0A'`, api.ErrForm},
		{`'\A0'`, api.ErrForm},
		{`'\FF'`, api.ErrForm},
		{`'\5C'`, api.ErrForm},
		{`'\0/'`, api.ErrForm},
		{`'\0:'`, api.ErrForm},
		{"'\\0`'", api.ErrForm},
		{`'\-1'`, api.ErrForm},
		{`'\ 1'`, api.ErrForm},
		{`'\x00'`, api.ErrForm},
		{`'\n'`, api.ErrForm},
		{`'a\62'`, api.ErrForm},
		{`'\20'`, api.ErrForm},
		{`'\7e'`, api.ErrForm},
		{"'\x1f'", api.ErrForm},
		{"'\n'", api.ErrForm},
		{"'\x00'", api.ErrForm},
		{"'\x7f'", api.ErrForm},
		{"'\x80'", api.ErrForm},
		{"'é'", api.ErrForm},
		{"'\xff'", api.ErrForm},
		{"'" + long + "'", api.ErrLong},
		{"'" + strings.Repeat(`\00`, 65) + "'", api.ErrLong},
		{"'" + strings.Repeat("a", 5000) + "'", api.ErrLong},
		// the form is told ahead of the length
		{"'" + long, api.ErrForm},
		{"'" + long + "\n'", api.ErrForm},
		{"'" + long + `\62'`, api.ErrForm},
		{"'" + long + `\'`, api.ErrForm},
		{"'" + long + "''", api.ErrForm},
		{"-", api.ErrForm},
		{"-0", api.ErrForm},
		{"+1", api.ErrForm},
		{"007", api.ErrForm},
		{"1 ", api.ErrForm},
		{"(1)", api.ErrForm},
		{"1'", api.ErrForm},
		{"\x00", api.ErrForm},
		{long, api.ErrForm},
		{"9223372036854775808", api.ErrOver},
		{"-9223372036854775809", api.ErrOver},
		{strings.Repeat("9", 500), api.ErrOver},
	}
	for _, x := range tests {
		if v, e := value.Parse(x.s); v != (api.Value{}) || e != x.e {
			t.Errorf("%q is read as %v, error %d and not %d", x.s, v, e, x.e)
		}
	}
}

// P5.3, P5.5
func TestParseInvertsShow(t *testing.T) {
	for _, v := range ordered() {
		if w, e := value.Parse(value.Show(v)); w != v || e != api.OK {
			t.Fatal(v, w, e)
		}
	}
}

// P5.5: of all short texts of some bytes, those are read that are shown, and each as what it is shown of.
func TestParseOfAllShortTexts(t *testing.T) {
	var all func(s string)
	all = func(s string) {
		v, e := value.Parse(s)
		switch {
		case e == api.OK && (!value.May(v) || value.Show(v) != s):
			t.Fatalf("%q is read as %v, shown as %q", s, v, value.Show(v))
		case e != api.OK && (v != (api.Value{}) || e != api.ErrForm):
			t.Fatalf("%q is read as %v, error %d", s, v, e)
		}
		if s != "" && s[0] != '\'' {
			if n, f := num.Read(s); e != f || v.Num != n {
				t.Fatalf("%q is read as %v, error %d", s, v, e)
			}
		}
		if len(s) < 6 {
			for _, c := range []byte("'\\027cA\x1f\xff") {
				all(s + string([]byte{c}))
			}
		}
	}
	all("")
}

// P5.5: no two values have the same bytes, or are shown alike.
func TestNoTwoAlike(t *testing.T) {
	seen := map[string]api.Value{}
	for _, v := range ordered() {
		for _, s := range []string{"bytes " + string(value.Bytes(v)), "shown " + value.Show(v)} {
			if w, ok := seen[s]; ok {
				t.Fatal(v, w)
			}
			seen[s] = v
		}
	}
}
