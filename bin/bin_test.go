package bin_test

import (
	"bytes"
	"encoding/binary"
	"math"
	"slices"
	"strings"
	"testing"

	"rescind/api"
	"rescind/bin"
)

const (
	most  = math.MaxInt64
	least = math.MinInt64
)

// many is so many bytes of a value, and others behind them.
func many(count int, value byte, behind ...byte) []byte {
	return append(bytes.Repeat([]byte{value}, count), behind...)
}

// numbers are those about each place at which the bytes become more, of both signs, and some mixed ones.
func numbers() []int {
	l := []int{0, least, least + 1, most - 1, most}
	for shift := range 63 {
		for d := -2; d <= 2; d++ {
			l = append(l, 1<<shift+d, -1<<shift+d)
		}
	}
	x := uint64(88172645463325252)
	for i := range 500 {
		x ^= x << 13
		x ^= x >> 7
		x ^= x << 17
		l = append(l, int(x)>>(i*7%64))
	}
	return l
}

// strange are strings of all bytes and of many lengths.
func strange() []string {
	l := []string{"", "ab", "\x00", "\x80", "\xff\xfe", "it's", "\xe2\x82\xac", strings.Repeat("x", 127), strings.Repeat("y", 128), strings.Repeat("\x80", 300), strings.Repeat("z", 20000)}
	var all []byte
	for b := range 256 {
		all = append(all, byte(b))
	}
	return append(l, string(all))
}

// words are all words of up to so many bytes, of those that differ for a number.
func words(upTo int) [][]byte {
	l := [][]byte{nil}
	for from := 0; upTo > 0; upTo-- {
		to := len(l)
		for _, w := range l[from:to] {
			for _, b := range []byte{0, 1, 2, 127, 128, 129, 255} {
				l = append(l, append(slices.Clone(w), b))
			}
		}
		from = to
	}
	return l
}

// numberAt is what must be read at the beginning of b, by the words of the document: the number without its sign's place, how many bytes it has, and the error.
func numberAt(b []byte, limit int) (uint64, int, api.Errno) {
	first := slices.IndexFunc(b[:min(limit, len(b))], func(x byte) bool { return x < 128 })
	switch {
	case first < 0 && len(b) < limit:
		return 0, 0, api.ErrEnd
	case first < 0, b[first] == 0 && first > 0, first == 9 && b[first] > 1:
		return 0, 0, api.ErrForm
	}
	n := uint64(0)
	for i := first; i >= 0; i-- {
		n = n*128 + uint64(b[i]&127)
	}
	return n, first + 1, api.OK
}

// signed is the number that zigzag gives a place.
func signed(n uint64) int {
	if n%2 == 0 {
		return int(n / 2)
	}
	return -int(n/2) - 1
}

// expectEnded fails unless a reader has that error, and does no more.
func expectEnded(t *testing.T, r *bin.Reader, e api.Errno) {
	t.Helper()
	for range 2 {
		if r.Err() != e || r.Left() != 0 {
			t.Fatal("error", r.Err(), "left", r.Left(), "and not", e)
		}
		if b, n, m := r.Byte(), r.Num(), r.Int(); b != 0 || n != 0 || m != 0 {
			t.Fatal(b, n, m)
		}
		if s, s2, s3 := r.Text(most), r.Text(0), r.Text(-1); s+s2+s3 != "" {
			t.Fatal(s, s2, s3)
		}
	}
}

// P3.1
func TestNum(t *testing.T) {
	tests := []struct {
		n    int
		want []byte
	}{
		{0, []byte{0}},
		{1, []byte{1}},
		{127, []byte{127}},
		{128, []byte{128, 1}},
		{300, []byte{172, 2}},
		{16383, []byte{255, 127}},
		{16384, []byte{128, 128, 1}},
		{most, many(8, 255, 127)},
		{1 << 62, many(8, 128, 64)},
		{-1, nil},
		{-300, nil},
		{least, nil},
	}
	for _, x := range tests {
		if b := bin.Num(x.n); !bytes.Equal(b, x.want) {
			t.Errorf("%d: %v", x.n, b)
		}
	}
	for _, n := range numbers() {
		var want []byte
		if n >= 0 {
			want = binary.AppendUvarint(nil, uint64(n))
		}
		if b := bin.Num(n); !bytes.Equal(b, want) {
			t.Fatalf("%d: %v", n, b)
		}
	}
}

// P3.1
func TestInt(t *testing.T) {
	tests := []struct {
		n    int
		want []byte
	}{
		{0, []byte{0}},
		{-1, []byte{1}},
		{1, []byte{2}},
		{-2, []byte{3}},
		{63, []byte{126}},
		{-64, []byte{127}},
		{64, []byte{128, 1}},
		{-65, []byte{129, 1}},
		{most, many(1, 254, many(8, 255, 1)...)},
		{least, many(9, 255, 1)},
		{1 << 62, many(9, 128, 1)},
	}
	for _, x := range tests {
		if b := bin.Int(x.n); !bytes.Equal(b, x.want) {
			t.Errorf("%d: %v", x.n, b)
		}
	}
	for _, n := range numbers() {
		if b := bin.Int(n); !bytes.Equal(b, binary.AppendVarint(nil, int64(n))) {
			t.Fatalf("%d: %v", n, b)
		}
	}
}

// P3.1
func TestText(t *testing.T) {
	if b := bin.Text("ab"); !bytes.Equal(b, []byte{2, 97, 98}) {
		t.Fatal(b)
	}
	for _, s := range strange() {
		want := append(binary.AppendUvarint(nil, uint64(len(s))), s...)
		if b := bin.Text(s); !bytes.Equal(b, want) {
			t.Fatalf("%q: %v", s, b)
		}
	}
}

// P3.1: no two answers share their bytes.
func TestAnswersAreNew(t *testing.T) {
	for _, call := range []func() []byte{
		func() []byte { return bin.Num(300) },
		func() []byte { return bin.Int(300) },
		func() []byte { return bin.Text("ab") },
	} {
		a, b := call(), call()
		want := slices.Clone(b)
		clear(a[:cap(a)])
		if !bytes.Equal(b, want) || !bytes.Equal(call(), want) {
			t.Fatal(b, want)
		}
	}
}

// P3.2: one element begins where the one ahead of it ended.
func TestReader(t *testing.T) {
	r := bin.NewReader([]byte{5, 172, 2, 3, 2, 'a', 'b', 0, 9})
	left := func(n int) {
		t.Helper()
		if r.Left() != n || r.Err() != api.OK {
			t.Fatal(r.Left(), r.Err())
		}
	}
	left(9)
	if b := r.Byte(); b != 5 {
		t.Fatal(b)
	}
	left(8)
	if n := r.Num(); n != 300 {
		t.Fatal(n)
	}
	left(6)
	if n := r.Int(); n != -2 {
		t.Fatal(n)
	}
	left(5)
	if s := r.Text(2); s != "ab" {
		t.Fatal(s)
	}
	left(2)
	if s := r.Text(0); s != "" {
		t.Fatal(s)
	}
	left(1)
	if b := r.Byte(); b != 9 {
		t.Fatal(b)
	}
	left(0) // all is read, and nothing has failed
	if b := r.Byte(); b != 0 {
		t.Fatal(b)
	}
	expectEnded(t, r, api.ErrEnd)
}

// P3.2: the bytes are neither changed nor retained, nor is what lies behind them read.
func TestReaderKeepsNothing(t *testing.T) {
	whole := []byte{172, 2, 2, 'a', 'b', 7, 7}
	want := slices.Clone(whole)
	r := bin.NewReader(whole[:5])
	if n := r.Num(); n != 300 || !bytes.Equal(whole, want) {
		t.Fatal(n, whole)
	}
	clear(whole)
	if s := r.Text(9); s != "ab" || r.Left() != 0 || r.Err() != api.OK {
		t.Fatal(s, r.Left(), r.Err())
	}
	if b := r.Byte(); b != 0 {
		t.Fatal(b)
	}
	expectEnded(t, r, api.ErrEnd)
	whole = slices.Clone(want)
	r = bin.NewReader(whole)
	if r.Num(); r.Text(2) != "ab" || r.Byte() != 7 || r.Byte() != 7 || r.Byte() != 0 || !bytes.Equal(whole, want) {
		t.Fatal(whole)
	}
}

// P3.2: readers do not hang on one another.
func TestReadersApart(t *testing.T) {
	b := []byte{1, 2}
	first, second := bin.NewReader(b), bin.NewReader(b)
	if first.Byte() != 1 || first.Byte() != 2 || first.Byte() != 0 || second.Left() != 2 || second.Err() != api.OK {
		t.Fatal(second.Left(), second.Err())
	}
	if second.Num() != 1 || second.Int() != 1 {
		t.Fatal(second.Err())
	}
}

// P3.2: the first error stays, whatever would fail with another one later.
func TestFirstErrorStays(t *testing.T) {
	tests := []struct {
		b    []byte
		read func(r *bin.Reader) bool // is the answer nought?
		e    api.Errno
	}{
		{[]byte{128, 0, 1, 2, 3}, func(r *bin.Reader) bool { return r.Num() == 0 }, api.ErrForm},
		{[]byte{128, 0, 1, 2, 3}, func(r *bin.Reader) bool { return r.Int() == 0 }, api.ErrForm},
		{[]byte{128, 0, 1, 2, 3}, func(r *bin.Reader) bool { return r.Text(5) == "" }, api.ErrForm},
		{[]byte{2, 'a', 'b', 1, 2}, func(r *bin.Reader) bool { return r.Text(1) == "" }, api.ErrLong},
		{[]byte{2, 'a'}, func(r *bin.Reader) bool { return r.Text(2) == "" }, api.ErrEnd},
		{many(12, 255), func(r *bin.Reader) bool { return r.Num() == 0 }, api.ErrForm},
		{many(12, 255), func(r *bin.Reader) bool { return r.Int() == 0 }, api.ErrForm},
		{many(12, 255), func(r *bin.Reader) bool { return r.Text(5) == "" }, api.ErrForm},
		{[]byte{255, 255}, func(r *bin.Reader) bool { return r.Int() == 0 }, api.ErrEnd},
		{nil, func(r *bin.Reader) bool { return r.Byte() == 0 }, api.ErrEnd},
		{[]byte{}, func(r *bin.Reader) bool { return r.Num() == 0 }, api.ErrEnd},
		{nil, func(r *bin.Reader) bool { return r.Int() == 0 }, api.ErrEnd},
		{nil, func(r *bin.Reader) bool { return r.Text(0) == "" }, api.ErrEnd},
	}
	for _, x := range tests {
		r := bin.NewReader(x.b)
		if r.Left() != len(x.b) || r.Err() != api.OK {
			t.Fatal(x.b, r.Left(), r.Err())
		}
		if !x.read(r) {
			t.Fatal(x.b)
		}
		expectEnded(t, r, x.e)
	}
}

// P3.2
func TestNilReader(t *testing.T) {
	expectEnded(t, nil, api.ErrNil)
}

// P3.3
func TestByte(t *testing.T) {
	var all []byte
	for b := range 256 {
		all = append(all, byte(b))
	}
	r := bin.NewReader(all)
	for i, want := range all {
		if b := r.Byte(); b != want || r.Err() != api.OK || r.Left() != len(all)-1-i {
			t.Fatal(want, b, r.Err(), r.Left())
		}
	}
	if b := r.Byte(); b != 0 {
		t.Fatal(b)
	}
	expectEnded(t, r, api.ErrEnd)
}

// readTest is what must be read of bytes, how many are left then, and the error.
type readTest struct {
	b    []byte
	n    int
	left int
	e    api.Errno
}

// run fails unless a call reads just that.
func (x readTest) run(t *testing.T, read func(r *bin.Reader) int) {
	t.Helper()
	r := bin.NewReader(x.b)
	if n := read(r); n != x.n || r.Left() != x.left || r.Err() != x.e {
		t.Errorf("%v: %d, left %d, error %d", x.b, n, r.Left(), r.Err())
	}
}

// P3.3
func TestReadNum(t *testing.T) {
	tests := []readTest{
		{[]byte{0}, 0, 0, api.OK},
		{[]byte{0, 0}, 0, 1, api.OK},
		{[]byte{127, 1}, 127, 1, api.OK},
		{[]byte{172, 2, 9}, 300, 1, api.OK},
		{many(8, 255, 127), most, 0, api.OK},
		{many(8, 255, 127, 3, 3), most, 2, api.OK},
		{many(8, 128, 1), 1 << 56, 0, api.OK},
		{many(8, 128, 0), 0, 0, api.ErrForm},
		{[]byte{128, 0}, 0, 0, api.ErrForm},
		{[]byte{255, 128, 0, 1}, 0, 0, api.ErrForm},
		{nil, 0, 0, api.ErrEnd},
		{[]byte{128}, 0, 0, api.ErrEnd},
		{many(8, 255), 0, 0, api.ErrEnd},
		{many(9, 255), 0, 0, api.ErrForm},
		{many(9, 128), 0, 0, api.ErrForm},
		{many(9, 128, 1), 0, 0, api.ErrForm}, // a signed number, but no number
		{many(20, 255, 1), 0, 0, api.ErrForm},
	}
	for _, x := range tests {
		x.run(t, (*bin.Reader).Num)
	}
}

// P3.3
func TestReadInt(t *testing.T) {
	tests := []readTest{
		{[]byte{0}, 0, 0, api.OK},
		{[]byte{1, 7}, -1, 1, api.OK},
		{[]byte{2}, 1, 0, api.OK},
		{[]byte{3}, -2, 0, api.OK},
		{many(9, 255, 1), least, 0, api.OK},
		{many(1, 254, many(8, 255, 1, 5)...), most, 1, api.OK},
		{many(9, 128, 1), 1 << 62, 0, api.OK},
		{many(8, 255, 127), -1 << 62, 0, api.OK},
		{many(9, 255, 0), 0, 0, api.ErrForm},
		{many(9, 255, 2), 0, 0, api.ErrForm},
		{many(9, 128, 2), 0, 0, api.ErrForm},
		{many(9, 255, 3), 0, 0, api.ErrForm},
		{many(9, 255, 127), 0, 0, api.ErrForm},
		{many(10, 255), 0, 0, api.ErrForm},
		{many(9, 255, 128), 0, 0, api.ErrForm},
		{many(9, 255, 129, 1), 0, 0, api.ErrForm},
		{many(30, 128, 1), 0, 0, api.ErrForm},
		{[]byte{128, 0}, 0, 0, api.ErrForm},
		{nil, 0, 0, api.ErrEnd},
		{[]byte{128}, 0, 0, api.ErrEnd},
		{many(9, 255), 0, 0, api.ErrEnd}, // one more could come
	}
	for _, x := range tests {
		x.run(t, (*bin.Reader).Int)
	}
}

// P3.3, P3.4: of short words of bytes, and of such words behind many bytes of a long number.
func TestReadAnyNumber(t *testing.T) {
	var ahead [][]byte
	for count := range 11 {
		ahead = append(ahead, many(count, 128), many(count, 255))
	}
	for _, w := range words(3) {
		for _, a := range ahead {
			expectNumbers(t, slices.Concat(a, w))
		}
	}
}

// expectNumbers fails unless Num and Int read from bytes what the document says, and only what they themselves encode.
func expectNumbers(t *testing.T, b []byte) {
	t.Helper()
	u, length, e := numberAt(b, 9)
	r := bin.NewReader(b)
	n := r.Num()
	expectRead(t, r, b, length, e)
	if n != int(u) || e == api.OK && !bytes.Equal(bin.Num(n), b[:length]) {
		t.Fatal(b, n)
	}
	u, length, e = numberAt(b, 10)
	r = bin.NewReader(b)
	n = r.Int()
	expectRead(t, r, b, length, e)
	if n != signed(u) || e == api.OK && !bytes.Equal(bin.Int(n), b[:length]) {
		t.Fatal(b, n)
	}
}

// expectRead fails unless a reader of b has read so many bytes, or has failed.
func expectRead(t *testing.T, r *bin.Reader, b []byte, length int, e api.Errno) {
	t.Helper()
	left := 0
	if e == api.OK {
		left = len(b) - length
	}
	if r.Err() != e || r.Left() != left {
		t.Fatal(b, "error", r.Err(), "and not", e, "left", r.Left())
	}
}

// P3.3
func TestReadText(t *testing.T) {
	tests := []struct {
		b    []byte
		most int
		s    string
		left int
		e    api.Errno
	}{
		{[]byte{2, 'a', 'b'}, 2, "ab", 0, api.OK},
		{[]byte{2, 'a', 'b', 'c'}, 2, "ab", 1, api.OK},
		{[]byte{2, 'a', 'b'}, most, "ab", 0, api.OK},
		{[]byte{2, 0, 255}, 64, "\x00\xff", 0, api.OK},
		{[]byte{0}, 0, "", 0, api.OK},
		{[]byte{0, 1}, 5, "", 1, api.OK},
		{[]byte{2, 'a', 'b'}, 1, "", 0, api.ErrLong},
		{[]byte{2, 'a', 'b'}, 0, "", 0, api.ErrLong},
		{[]byte{0}, -1, "", 0, api.ErrLong},
		{[]byte{0}, least, "", 0, api.ErrLong},
		{[]byte{1, 'a'}, -5, "", 0, api.ErrLong},
		{[]byte{3, 'a', 'b'}, 2, "", 0, api.ErrLong}, // and the end is too early: told behind
		{many(8, 255, 127, 'a'), 64, "", 0, api.ErrLong},
		{many(8, 255, 127, 'a'), most, "", 0, api.ErrEnd},
		{many(8, 255, 127, 'a'), most - 1, "", 0, api.ErrLong},
		{[]byte{3, 'a', 'b'}, 3, "", 0, api.ErrEnd},
		{[]byte{1}, 3, "", 0, api.ErrEnd},
		{nil, 3, "", 0, api.ErrEnd},
		{nil, -1, "", 0, api.ErrEnd},
		{[]byte{128}, -1, "", 0, api.ErrEnd},
		{[]byte{129, 0, 'a'}, 3, "", 0, api.ErrForm},
		{many(9, 255, 1), -1, "", 0, api.ErrForm},
	}
	for _, x := range tests {
		r := bin.NewReader(x.b)
		if s := r.Text(x.most); s != x.s || r.Left() != x.left || r.Err() != x.e {
			t.Errorf("%v, at most %d: %q, left %d, error %d", x.b, x.most, s, r.Left(), r.Err())
		}
	}
}

// P3.4: what was encoded, element behind element, is read again, and nothing is left.
func TestReadInvertsAll(t *testing.T) {
	var b []byte
	for _, n := range numbers() {
		b = append(b, bin.Num(n)...) // no bytes at all, if it is negative
		b = append(b, bin.Int(n)...)
		b = append(b, byte(n))
	}
	for _, s := range strange() {
		b = append(b, bin.Text(s)...)
	}
	r := bin.NewReader(b)
	for _, n := range numbers() {
		if n >= 0 {
			if m := r.Num(); m != n {
				t.Fatal(n, m, r.Err())
			}
		}
		if m := r.Int(); m != n {
			t.Fatal(n, m, r.Err())
		}
		if x := r.Byte(); x != byte(n) {
			t.Fatal(n, x, r.Err())
		}
	}
	for _, s := range strange() {
		if x := r.Text(len(s)); x != s {
			t.Fatalf("%q: %q, error %d", s, x, r.Err())
		}
	}
	if r.Left() != 0 || r.Err() != api.OK {
		t.Fatal(r.Left(), r.Err())
	}
}

// P3.4: of an encoding that is cut short nothing is read, wherever it is cut.
func TestCutShort(t *testing.T) {
	for _, n := range numbers() {
		for cut := range len(bin.Int(n)) {
			r := bin.NewReader(bin.Int(n)[:cut])
			if m := r.Int(); m != 0 {
				t.Fatal(n, cut, m)
			}
			expectEnded(t, r, api.ErrEnd)
		}
		for cut := range len(bin.Num(n)) {
			r := bin.NewReader(bin.Num(n)[:cut])
			if m := r.Num(); m != 0 {
				t.Fatal(n, cut, m)
			}
			expectEnded(t, r, api.ErrEnd)
		}
	}
	whole := bin.Text(strings.Repeat("x", 200))
	for cut := range len(whole) {
		r := bin.NewReader(whole[:cut])
		if s := r.Text(200); s != "" {
			t.Fatal(cut, s)
		}
		expectEnded(t, r, api.ErrEnd)
	}
}
