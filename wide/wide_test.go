package wide_test

import (
	"math"
	"math/big"
	"slices"
	"testing"

	"rescind/api"
	"rescind/wide"
)

const (
	most  = math.MaxInt64
	least = math.MinInt64
	ones  = math.MaxUint64
	half  = 1 << 63 // the least Lo that is no number of 64 bits
)

// ends are the least and the greatest wide number.
func ends() (low, high api.Wide) { return api.Wide{Hi: least}, api.Wide{Hi: most, Lo: ones} }

// numbers are numbers of 64 bits at which results turn, and others of all sizes, the same in each run.
func numbers(count int) []int {
	l := []int{0, 1, 2, 3, 10, 1<<31 - 1, 1 << 31, 1<<32 - 1, 1 << 32, 1<<32 + 1, 3037000499, 3037000500, 1<<62 - 1, 1 << 62, most / 3, most - 1, most}
	for _, n := range slices.Clone(l) {
		l = append(l, -n)
	}
	l = append(l, least, least+1)
	d := dice(1)
	for i := range count {
		l = append(l, int(d.roll())>>(i*7%64))
	}
	return l
}

// wides are wide numbers at which results turn, and others of all sizes, the same in each run.
func wides(count int) []api.Wide {
	var l []api.Wide
	for _, high := range []int{least, least + 1, -1 << 62, -1<<62 - 1, -2, -1, 0, 1, 1<<62 - 1, 1 << 62, most - 1, most} {
		for _, low := range []uint64{0, 1, 2, 1 << 32, half - 1, half, half + 1, ones - 1, ones} {
			l = append(l, api.Wide{Hi: high, Lo: low})
		}
	}
	d := dice(2)
	for i := range count {
		l = append(l, api.Wide{Hi: int(d.roll()) >> (i * 7 % 64), Lo: d.roll()})
	}
	return l
}

// dice are words without a pattern, the same each time.
type dice uint64

func (d *dice) roll() uint64 {
	*d += 0x9e3779b97f4a7c15
	x := uint64(*d)
	x = (x ^ x>>30) * 0xbf58476d1ce4e5b9
	x = (x ^ x>>27) * 0x94d049bb133111eb
	return x ^ x>>31
}

func large(n int) *big.Int { return big.NewInt(int64(n)) }

// exact is Hi times 2^64 plus Lo.
func exact(a api.Wide) *big.Int {
	n := new(big.Int).Lsh(large(a.Hi), 64)
	return n.Add(n, new(big.Int).SetUint64(a.Lo))
}

// fits is what a call must answer if the exact result is n.
func fits(n *big.Int) (api.Wide, api.Errno) {
	low, high := ends()
	if n.Cmp(exact(low)) < 0 || n.Cmp(exact(high)) > 0 {
		return api.Wide{}, api.ErrOver
	}
	word := new(big.Int).SetUint64(ones)
	high = api.Wide{Hi: int(new(big.Int).Rsh(n, 64).Int64()), Lo: word.And(word, n).Uint64()}
	return high, api.OK
}

// expect holds an answer against the one that must be.
func expect(t *testing.T, what string, got api.Wide, e api.Errno, want api.Wide, f api.Errno) {
	t.Helper()
	if got != want || e != f {
		t.Fatalf("%s: %d, error %d, and not %d, error %d", what, got, e, want, f)
	}
}

// P23.1: the document's example, and others by hand.
func TestOf(t *testing.T) {
	tests := []struct {
		n    int
		want api.Wide
	}{
		{0, api.Wide{}},
		{1, api.Wide{Lo: 1}},
		{-1, api.Wide{Hi: -1, Lo: ones}},
		{5, api.Wide{Lo: 5}},
		{-5, api.Wide{Hi: -1, Lo: ones - 4}},
		{most, api.Wide{Lo: half - 1}},
		{least, api.Wide{Hi: -1, Lo: half}},
		{least + 1, api.Wide{Hi: -1, Lo: half + 1}},
	}
	for _, test := range tests {
		if got := wide.Of(test.n); got != test.want {
			t.Errorf("of %d: %d, and not %d", test.n, got, test.want)
		}
	}
	for _, n := range numbers(300) {
		if got := wide.Of(n); exact(got).Cmp(large(n)) != 0 {
			t.Errorf("of %d: %d", n, got)
		}
	}
}

// P23.1: each place at which a sum just fits, and its neighbour that does not.
func TestAddByHand(t *testing.T) {
	low, high := ends()
	tests := []struct {
		a, b, want api.Wide
		e          api.Errno
	}{
		{api.Wide{}, api.Wide{}, api.Wide{}, api.OK},
		{api.Wide{Lo: 2}, api.Wide{Lo: 3}, api.Wide{Lo: 5}, api.OK},
		{api.Wide{Lo: ones}, api.Wide{Lo: 1}, api.Wide{Hi: 1}, api.OK},
		{api.Wide{Lo: ones}, api.Wide{Lo: ones}, api.Wide{Hi: 1, Lo: ones - 1}, api.OK},
		{api.Wide{Hi: 1}, wide.Of(-1), api.Wide{Lo: ones}, api.OK},
		{wide.Of(-1), wide.Of(1), api.Wide{}, api.OK},
		{wide.Of(-1), wide.Of(-1), api.Wide{Hi: -1, Lo: ones - 1}, api.OK},
		{wide.Of(most), wide.Of(1), api.Wide{Lo: half}, api.OK},
		{wide.Of(least), wide.Of(-1), api.Wide{Hi: -1, Lo: half - 1}, api.OK},
		{high, api.Wide{}, high, api.OK},
		{high, wide.Of(1), api.Wide{}, api.ErrOver},
		{high, wide.Of(-1), api.Wide{Hi: most, Lo: ones - 1}, api.OK},
		{high, high, api.Wide{}, api.ErrOver},
		{high, low, wide.Of(-1), api.OK},
		{low, api.Wide{}, low, api.OK},
		{low, wide.Of(-1), api.Wide{}, api.ErrOver},
		{low, wide.Of(1), api.Wide{Hi: least, Lo: 1}, api.OK},
		{low, low, api.Wide{}, api.ErrOver},
		{api.Wide{Hi: 1 << 62}, api.Wide{Hi: 1 << 62}, api.Wide{}, api.ErrOver},
		{api.Wide{Hi: 1 << 62}, api.Wide{Hi: 1<<62 - 1, Lo: ones}, high, api.OK},
		{api.Wide{Hi: -1 << 62}, api.Wide{Hi: -1 << 62}, low, api.OK},
		{api.Wide{Hi: -1 << 62}, api.Wide{Hi: -1<<62 - 1, Lo: ones}, api.Wide{}, api.ErrOver},
	}
	for _, test := range tests {
		got, e := wide.Add(test.a, test.b)
		expect(t, "a sum", got, e, test.want, test.e)
		got, e = wide.Add(test.b, test.a)
		expect(t, "a sum turned round", got, e, test.want, test.e)
	}
}

// P23.1
func TestAdd(t *testing.T) {
	l := wides(300)
	for _, a := range l {
		for _, b := range l {
			got, e := wide.Add(a, b)
			want, f := fits(new(big.Int).Add(exact(a), exact(b)))
			expect(t, "a sum", got, e, want, f)
		}
	}
}

// P23.1: the document's example, others by hand, and many.
func TestNeg(t *testing.T) {
	low, high := ends()
	tests := []struct {
		a, want api.Wide
		e       api.Errno
	}{
		{low, api.Wide{}, api.ErrOver},
		{api.Wide{Hi: least, Lo: 1}, high, api.OK},
		{high, api.Wide{Hi: least, Lo: 1}, api.OK},
		{api.Wide{}, api.Wide{}, api.OK},
		{api.Wide{Lo: 1}, api.Wide{Hi: -1, Lo: ones}, api.OK},
		{api.Wide{Hi: -1, Lo: ones}, api.Wide{Lo: 1}, api.OK},
		{api.Wide{Hi: 1}, api.Wide{Hi: -1}, api.OK},
		{api.Wide{Hi: -1}, api.Wide{Hi: 1}, api.OK},
		{api.Wide{Lo: half}, api.Wide{Hi: -1, Lo: half}, api.OK},
	}
	for _, test := range tests {
		got, e := wide.Neg(test.a)
		expect(t, "a negation", got, e, test.want, test.e)
	}
	for _, a := range wides(3000) {
		got, e := wide.Neg(a)
		want, f := fits(new(big.Int).Neg(exact(a)))
		expect(t, "a negation", got, e, want, f)
	}
}

// P23.1: the document's example, others by hand, and many.
func TestMul(t *testing.T) {
	tests := []struct {
		a, b int
		want api.Wide
	}{
		{least, least, api.Wide{Hi: 1 << 62}},
		{least, most, api.Wide{Hi: -1 << 62, Lo: half}},
		{most, most, api.Wide{Hi: 1<<62 - 1, Lo: 1}},
		{least, -1, api.Wide{Lo: half}},
		{least, 1, api.Wide{Hi: -1, Lo: half}},
		{least, 0, api.Wide{}},
		{-1, -1, api.Wide{Lo: 1}},
		{-3, 4, api.Wide{Hi: -1, Lo: ones - 11}},
		{3, 4, api.Wide{Lo: 12}},
		{0, -7, api.Wide{}},
		{1 << 32, 1 << 32, api.Wide{Hi: 1}},
		{-1 << 32, 1 << 32, api.Wide{Hi: -1}},
	}
	for _, test := range tests {
		if got, turned := wide.Mul(test.a, test.b), wide.Mul(test.b, test.a); got != test.want || turned != test.want {
			t.Errorf("%d times %d: %d and %d, and not %d", test.a, test.b, got, turned, test.want)
		}
	}
	l := numbers(300)
	for _, a := range l {
		for _, b := range l {
			want, e := fits(new(big.Int).Mul(large(a), large(b)))
			expect(t, "a product", wide.Mul(a, b), api.OK, want, e)
		}
	}
}

// P23.2: pairs by hand, in order.
func TestCompareByHand(t *testing.T) {
	low, high := ends()
	l := []api.Wide{low, {Hi: least, Lo: 1}, {Hi: least, Lo: ones}, {Hi: -2, Lo: ones}, {Hi: -1}, {Hi: -1, Lo: half}, {Hi: -1, Lo: ones}, {}, {Lo: 1}, {Lo: half - 1}, {Lo: half}, {Lo: ones}, {Hi: 1}, {Hi: 1, Lo: 1}, {Hi: most}, high}
	for i, a := range l {
		for j, b := range l {
			want := 0
			switch {
			case i < j:
				want = -1
			case i > j:
				want = 1
			}
			if got := wide.Compare(a, b); got != want {
				t.Errorf("%d and %d: %d, and not %d", a, b, got, want)
			}
		}
	}
}

// P23.2
func TestCompare(t *testing.T) {
	l := wides(300)
	for _, a := range l {
		for _, b := range l {
			if got, want := wide.Compare(a, b), exact(a).Cmp(exact(b)); got != want {
				t.Fatalf("%d and %d: %d, and not %d", a, b, got, want)
			}
		}
	}
}

// P23.2: the document's example, others by hand, and many.
func TestInt(t *testing.T) {
	low, high := ends()
	tests := []struct {
		a api.Wide
		n int
		e api.Errno
	}{
		{api.Wide{Lo: half}, 0, api.ErrOver},
		{api.Wide{Lo: half - 1}, most, api.OK},
		{api.Wide{Hi: -1, Lo: half}, least, api.OK},
		{api.Wide{Hi: -1, Lo: half - 1}, 0, api.ErrOver},
		{api.Wide{}, 0, api.OK},
		{api.Wide{Lo: 7}, 7, api.OK},
		{api.Wide{Hi: -1, Lo: ones}, -1, api.OK},
		{api.Wide{Lo: ones}, 0, api.ErrOver},
		{api.Wide{Hi: 1}, 0, api.ErrOver},
		{api.Wide{Hi: 1, Lo: 7}, 0, api.ErrOver},
		{api.Wide{Hi: -1}, 0, api.ErrOver},
		{api.Wide{Hi: -2, Lo: ones}, 0, api.ErrOver},
		{low, 0, api.ErrOver},
		{high, 0, api.ErrOver},
	}
	for _, test := range tests {
		if n, e := wide.Int(test.a); n != test.n || e != test.e {
			t.Errorf("%d: %d, error %d, and not %d, error %d", test.a, n, e, test.n, test.e)
		}
	}
	for _, a := range wides(3000) {
		want, wanted := 0, api.ErrOver
		if x := exact(a); x.IsInt64() {
			want, wanted = int(x.Int64()), api.OK
		}
		if n, e := wide.Int(a); n != want || e != wanted {
			t.Errorf("%d: %d, error %d, and not %d, error %d", a, n, e, want, wanted)
		}
	}
}

// P23.3: Add is commutative, and what was added can be subtracted again.
func TestAddAndSubtract(t *testing.T) {
	l := wides(200)
	for _, a := range l {
		for _, b := range l {
			sum, e := wide.Add(a, b)
			turned, f := wide.Add(b, a)
			expect(t, "a sum turned round", turned, f, sum, e)
			less, f := wide.Neg(b)
			if e != api.OK || f != api.OK {
				continue
			}
			back, e := wide.Add(sum, less)
			expect(t, "what was added, subtracted", back, e, a, api.OK)
		}
	}
}

// P23.3: Mul distributes over Add.
func TestDistributes(t *testing.T) {
	l := numbers(60)
	for _, a := range l {
		for _, b := range l {
			for _, c := range l[:30] {
				n, e := wide.Add(wide.Of(b), wide.Of(c))
				sum, f := wide.Int(n)
				if e != api.OK || f != api.OK {
					continue
				}
				parts, e := wide.Add(wide.Mul(a, b), wide.Mul(a, c))
				expect(t, "the sum of two products", parts, e, wide.Mul(a, sum), api.OK)
			}
		}
	}
}

// P23.3: Int inverts Of, and Of inverts Int.
func TestInverse(t *testing.T) {
	for _, n := range numbers(3000) {
		if back, e := wide.Int(wide.Of(n)); back != n || e != api.OK {
			t.Errorf("%d: %d, error %d", n, back, e)
		}
	}
	for _, a := range wides(3000) {
		if n, e := wide.Int(a); e == api.OK && wide.Of(n) != a {
			t.Errorf("%d: %d", a, n)
		}
	}
}

// P23.1 and P23.2: products are put together and taken apart again, as an aggregate does it, beyond 64 bits and back.
func TestLongSum(t *testing.T) {
	l := numbers(2000)
	sum, total := api.Wide{}, new(big.Int)
	for i, n := range l {
		var e api.Errno
		sum, e = wide.Add(sum, wide.Mul(n, 1+i%1000))
		total.Add(total, new(big.Int).Mul(large(n), large(1+i%1000)))
		want, f := fits(total)
		expect(t, "a long sum", sum, e, want, f)
	}
	for i, n := range slices.Backward(l) {
		less, e := wide.Neg(wide.Mul(n, 1+i%1000))
		if e != api.OK {
			t.Fatal(n, e)
		}
		if sum, e = wide.Add(sum, less); e != api.OK {
			t.Fatal(n, e)
		}
	}
	expect(t, "what is left", sum, api.OK, api.Wide{}, api.OK)
}
