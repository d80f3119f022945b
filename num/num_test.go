package num_test

import (
	"math"
	"math/big"
	"slices"
	"strings"
	"testing"

	"rescind/api"
	"rescind/num"
)

const (
	most  = math.MaxInt64
	least = math.MinInt64
)

// edges are numbers at which results begin or cease to fit, and small ones of both signs.
func edges() []int {
	l := []int{0, 1, 2, 3, 7, 10, 1<<31 - 1, 1 << 31, 1<<32 - 1, 1 << 32, 1<<32 + 1, 3037000499, 3037000500, 1 << 50, 1<<62 - 1, 1 << 62, 1<<62 + 1, most / 3, most - 1, most}
	for _, n := range slices.Clone(l) {
		l = append(l, -n)
	}
	return append(l, least, least+1, least/3)
}

// mixed are numbers of all sizes and both signs, the same ones in each run.
func mixed(count int) []int {
	l := make([]int, count)
	x := uint64(88172645463325252)
	for i := range l {
		x ^= x << 13
		x ^= x >> 7
		x ^= x << 17
		l[i] = int(x) >> (i * 7 % 64)
	}
	return l
}

// fits is what a call must answer if the exact result is n.
func fits(n *big.Int) (int, api.Errno) {
	if !n.IsInt64() {
		return 0, api.ErrOver
	}
	return int(n.Int64()), api.OK
}

func large(n int) *big.Int { return big.NewInt(int64(n)) }

// twoNumbers asks a call of two numbers for all pairs of a list, and holds the answers against the exact ones.
func twoNumbers(t *testing.T, l []int, call func(a, b int) (int, api.Errno), exact func(a, b int) (int, api.Errno)) {
	t.Helper()
	for _, a := range l {
		for _, b := range l {
			n, e := call(a, b)
			m, f := exact(a, b)
			if n != m || e != f {
				t.Fatalf("of %d and %d: %d, error %d, and not %d, error %d", a, b, n, e, m, f)
			}
		}
	}
}

// P1.1
func TestAddSubMul(t *testing.T) {
	for _, l := range [][]int{edges(), mixed(300)} {
		twoNumbers(t, l, num.Add, func(a, b int) (int, api.Errno) { return fits(new(big.Int).Add(large(a), large(b))) })
		twoNumbers(t, l, num.Sub, func(a, b int) (int, api.Errno) { return fits(new(big.Int).Sub(large(a), large(b))) })
		twoNumbers(t, l, num.Mul, func(a, b int) (int, api.Errno) { return fits(new(big.Int).Mul(large(a), large(b))) })
	}
}

// P1.1: each place at which a result just fits, and its neighbour that does not.
func TestJustFits(t *testing.T) {
	tests := []struct {
		what string
		call func(a, b int) (int, api.Errno)
		a, b int
		n    int
		e    api.Errno
	}{
		{"add", num.Add, 2, 3, 5, api.OK},
		{"add", num.Add, most, 0, most, api.OK},
		{"add", num.Add, most, 1, 0, api.ErrOver},
		{"add", num.Add, 1, most, 0, api.ErrOver},
		{"add", num.Add, least, -1, 0, api.ErrOver},
		{"add", num.Add, least, least, 0, api.ErrOver},
		{"add", num.Add, least, most, -1, api.OK},
		{"sub", num.Sub, 2, 3, -1, api.OK},
		{"sub", num.Sub, -1, least, most, api.OK},
		{"sub", num.Sub, 0, least, 0, api.ErrOver},
		{"sub", num.Sub, least, 1, 0, api.ErrOver},
		{"sub", num.Sub, least, least, 0, api.OK},
		{"sub", num.Sub, most, -1, 0, api.ErrOver},
		{"mul", num.Mul, -4, 3, -12, api.OK},
		{"mul", num.Mul, 0, least, 0, api.OK},
		{"mul", num.Mul, least, 1, least, api.OK},
		{"mul", num.Mul, least, -1, 0, api.ErrOver},
		{"mul", num.Mul, -1, least, 0, api.ErrOver},
		{"mul", num.Mul, most, -1, -most, api.OK},
		{"mul", num.Mul, 1 << 31, 1 << 32, 0, api.ErrOver},
		{"mul", num.Mul, -1 << 31, 1 << 32, least, api.OK},
		{"mul", num.Mul, 1 << 31, -1 << 32, least, api.OK},
		{"mul", num.Mul, -1 << 31, -1 << 32, 0, api.ErrOver},
		{"mul", num.Mul, least, least, 0, api.ErrOver},
	}
	for _, x := range tests {
		if n, e := x.call(x.a, x.b); n != x.n || e != x.e {
			t.Errorf("%s of %d and %d: %d, error %d", x.what, x.a, x.b, n, e)
		}
	}
}

// P1.1
func TestNeg(t *testing.T) {
	for _, a := range append(edges(), mixed(300)...) {
		n, e := num.Neg(a)
		if m, f := fits(new(big.Int).Neg(large(a))); n != m || e != f {
			t.Fatal(a, n, e)
		}
	}
	if n, e := num.Neg(least); n != 0 || e != api.ErrOver {
		t.Fatal(n, e)
	}
}

// P1.1
func TestQuoRem(t *testing.T) {
	quo := func(a, b int) (int, api.Errno) {
		if b == 0 {
			return 0, api.ErrZero
		}
		return fits(new(big.Int).Quo(large(a), large(b)))
	}
	rem := func(a, b int) (int, api.Errno) {
		if b == 0 {
			return 0, api.ErrZero
		}
		return fits(new(big.Int).Rem(large(a), large(b)))
	}
	for _, l := range [][]int{edges(), mixed(300)} {
		twoNumbers(t, l, num.Quo, quo)
		twoNumbers(t, l, num.Rem, rem)
	}
	tests := []struct {
		a, b, quo, rem int
		quoErr, remErr api.Errno
	}{
		{7, 2, 3, 1, api.OK, api.OK},
		{-7, 2, -3, -1, api.OK, api.OK},
		{7, -2, -3, 1, api.OK, api.OK},
		{-7, -2, 3, -1, api.OK, api.OK},
		{6, -2, -3, 0, api.OK, api.OK},
		{least, -1, 0, 0, api.ErrOver, api.OK},
		{least, 1, least, 0, api.OK, api.OK},
		{most, -1, -most, 0, api.OK, api.OK},
		{7, 0, 0, 0, api.ErrZero, api.ErrZero},
		{0, 0, 0, 0, api.ErrZero, api.ErrZero},
		{least, 0, 0, 0, api.ErrZero, api.ErrZero},
	}
	for _, x := range tests {
		if n, e := num.Quo(x.a, x.b); n != x.quo || e != x.quoErr {
			t.Errorf("quo of %d and %d: %d, error %d", x.a, x.b, n, e)
		}
		if n, e := num.Rem(x.a, x.b); n != x.rem || e != x.remErr {
			t.Errorf("rem of %d and %d: %d, error %d", x.a, x.b, n, e)
		}
	}
}

// P1.2
func TestSum(t *testing.T) {
	tests := []struct {
		l []int
		n int
		e api.Errno
	}{
		{nil, 0, api.OK},
		{[]int{}, 0, api.OK},
		{[]int{-5}, -5, api.OK},
		{[]int{1, 2, 3, -10}, -4, api.OK},
		{[]int{most}, most, api.OK},
		{[]int{least}, least, api.OK},
		{[]int{most, 1}, 0, api.ErrOver},
		{[]int{least, -1}, 0, api.ErrOver},
		{[]int{most, 1, -1}, most, api.OK},
		{[]int{least, -1, 1}, least, api.OK},
		{[]int{most, most, least}, most - 1, api.OK},
		{[]int{least, least, most, most}, -2, api.OK},
		{[]int{most, most, 2}, 0, api.ErrOver},    // 2^64: the lower word alone is 0
		{[]int{least, least}, 0, api.ErrOver},     // -2^64, likewise
		{[]int{most, most, 1}, 0, api.ErrOver},    // 2^64 - 1: the lower word alone is -1
		{[]int{least, least, -1}, 0, api.ErrOver}, // the lower word alone is -1
		{[]int{least, least, most}, 0, api.ErrOver},
	}
	for _, x := range tests {
		if n, e := num.Sum(x.l...); n != x.n || e != x.e {
			t.Errorf("sum of %v: %d, error %d", x.l, n, e)
		}
	}
}

// P1.2: long lists, whose parts leave 64 bits by far.
func TestSumOfMany(t *testing.T) {
	for _, n := range []int{most, least, -1, 1 << 40} {
		l := make([]int, 5000)
		for i := range l {
			l[i] = n
		}
		x, e := num.Sum(l...)
		if y, f := fits(new(big.Int).Mul(large(n), large(len(l)))); x != y || e != f {
			t.Fatal(n, x, e)
		}
		for i := range l[:2500] {
			l[i] = ^n // with n, -1
		}
		if x, e := num.Sum(l...); x != -2500 || e != api.OK {
			t.Fatal(n, x, e)
		}
	}
	l := mixed(400)
	for i := range l {
		exact := new(big.Int)
		for _, n := range l[i:] {
			exact.Add(exact, large(n))
		}
		x, e := num.Sum(l[i:]...)
		if y, f := fits(exact); x != y || e != f {
			t.Fatal(i, x, e)
		}
	}
}

// P1.5, and that Sum leaves its arguments alone
func TestSumOrder(t *testing.T) {
	l := []int{most, 1, least, -1, most, 5, 0}
	n, e := num.Sum(l...)
	orders(l, 0, func(l []int) {
		before := slices.Clone(l)
		if m, f := num.Sum(l...); m != n || f != e {
			t.Fatal(l, m, f)
		}
		if !slices.Equal(l, before) {
			t.Fatal("changed", before, l)
		}
	})
	over := []int{most, 1, 1, -1}
	orders(over, 0, func(l []int) {
		if m, f := num.Sum(l...); m != 0 || f != api.ErrOver {
			t.Fatal(l, m, f)
		}
	})
}

// orders calls f for each order of what is in l from place i on.
func orders(l []int, i int, f func(l []int)) {
	if i == len(l) {
		f(l)
		return
	}
	for j := i; j < len(l); j++ {
		l[i], l[j] = l[j], l[i]
		orders(l, i+1, f)
		l[i], l[j] = l[j], l[i]
	}
}

// P1.3
func TestFloor(t *testing.T) {
	tests := []struct {
		a, b, q, r int
		e          api.Errno
	}{
		{7, 2, 3, 1, api.OK},
		{-7, 2, -4, 1, api.OK},
		{-8, 2, -4, 0, api.OK},
		{-1, most, -1, most - 1, api.OK},
		{0, 5, 0, 0, api.OK},
		{least, 1, least, 0, api.OK},
		{most, 1, most, 0, api.OK},
		{least, 2, -1 << 62, 0, api.OK},
		{least, most, -2, most - 1, api.OK},
		{most, most, 1, 0, api.OK},
		{7, 0, 0, 0, api.ErrArg},
		{7, -1, 0, 0, api.ErrArg},
		{least, -1, 0, 0, api.ErrArg},
		{-7, least, 0, 0, api.ErrArg},
	}
	for _, x := range tests {
		if q, r, e := num.Floor(x.a, x.b); q != x.q || r != x.r || e != x.e {
			t.Errorf("floor of %d and %d: %d and %d, error %d", x.a, x.b, q, r, e)
		}
	}
	l := append(edges(), mixed(200)...)
	for _, a := range l {
		for _, b := range l {
			q, r, e := num.Floor(a, b)
			if b < 1 {
				if q != 0 || r != 0 || e != api.ErrArg {
					t.Fatal(a, b, q, r, e)
				}
				continue
			}
			m, k := new(big.Int).DivMod(large(a), large(b), new(big.Int))
			if e != api.OK || large(q).Cmp(m) != 0 || large(r).Cmp(k) != 0 {
				t.Fatal(a, b, q, r, e)
			}
		}
	}
}

// P1.4
func TestShow(t *testing.T) {
	tests := []struct {
		n int
		s string
	}{
		{0, "0"}, {7, "7"}, {-7, "-7"}, {10, "10"}, {1200, "1200"}, {-1200, "-1200"},
		{most, "9223372036854775807"}, {least, "-9223372036854775808"},
	}
	for _, x := range tests {
		if s := num.Show(x.n); s != x.s {
			t.Errorf("%d is shown as %q", x.n, s)
		}
	}
	for _, n := range append(edges(), mixed(300)...) {
		if s := num.Show(n); s != large(n).String() {
			t.Fatal(n, s)
		}
	}
}

// P1.4
func TestRead(t *testing.T) {
	tests := []struct {
		s string
		n int
		e api.Errno
	}{
		{"0", 0, api.OK},
		{"7", 7, api.OK},
		{"-1", -1, api.OK},
		{"1200", 1200, api.OK},
		{"9223372036854775807", most, api.OK},
		{"-9223372036854775808", least, api.OK},
		{"9223372036854775808", 0, api.ErrOver},
		{"-9223372036854775809", 0, api.ErrOver},
		{"18446744073709551616", 0, api.ErrOver}, // 2^64
		{"10000000000000000000000000", 0, api.ErrOver},
		{"1" + strings.Repeat("0", 1000), 0, api.ErrOver},
		{"-" + strings.Repeat("9", 1000), 0, api.ErrOver},
	}
	for _, x := range tests {
		if n, e := num.Read(x.s); n != x.n || e != x.e {
			t.Errorf("%q is read as %d, error %d", x.s, n, e)
		}
	}
}

// P1.4: texts that are no numbers; a wrong form is told ahead of a size that is too great.
func TestReadOfNoNumber(t *testing.T) {
	texts := []string{
		"", "-", "--1", "+1", "+", "-0", "00", "007", "-07", "-00", "01", " 1", "1 ", "1\n", "1a", "a", "0x1", "1_000", "1e3", "1.0", "1-", "-+1",
		"\x00", "1\x00", "\xff", "١", "１", "−1", "/", ":", "1/", "1:",
		strings.Repeat("9", 40) + "a", "0" + strings.Repeat("9", 40), "+" + strings.Repeat("9", 40), "-0" + strings.Repeat("9", 40),
	}
	for _, s := range texts {
		if n, e := num.Read(s); n != 0 || e != api.ErrForm {
			t.Errorf("%q is read as %d, error %d", s, n, e)
		}
	}
}

// P1.4: of all short texts of some bytes, those are numbers that Show shows.
func TestReadOfAllShortTexts(t *testing.T) {
	shown := map[string]int{}
	for n := -9999; n <= 9999; n++ {
		shown[num.Show(n)] = n
	}
	var all func(s string)
	all = func(s string) {
		n, e := num.Read(s)
		m, ok := shown[s]
		if ok && (n != m || e != api.OK) || !ok && (n != 0 || e != api.ErrForm) {
			t.Fatalf("%q is read as %d, error %d", s, n, e)
		}
		if len(s) < 4 {
			for _, b := range []byte("-+0159 /:a\xb2") {
				all(s + string([]byte{b}))
			}
		}
	}
	all("")
}

// P1.5
func TestSubInvertsAdd(t *testing.T) {
	l := append(edges(), mixed(200)...)
	for _, a := range l {
		for _, b := range l {
			n, e := num.Add(a, b)
			if e != api.OK {
				continue
			}
			if m, f := num.Sub(n, b); m != a || f != api.OK {
				t.Fatal(a, b, n, m, f)
			}
		}
	}
}

// P1.5
func TestReadInvertsShow(t *testing.T) {
	for _, n := range append(edges(), mixed(500)...) {
		if m, e := num.Read(num.Show(n)); m != n || e != api.OK {
			t.Fatal(n, m, e)
		}
	}
}
