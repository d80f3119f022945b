package step_test

import (
	"math"
	"slices"
	"testing"

	"rescind/api"
	"rescind/step"
)

const (
	most    = math.MaxInt64
	least   = math.MinInt64
	before  = -1
	forever = 1 << 50
	last    = forever - 1
	maxNet  = 1 << 20
	maxLen  = 1 << 10
)

// jumps are jumps by their places and sizes, in turn.
func jumps(l ...int) []api.Jump {
	var f []api.Jump
	for i := 0; i < len(l); i += 2 {
		f = append(f, api.Jump{At: l[i], Net: l[i+1]})
	}
	return f
}

// saw is a function with so many jumps, up and down by one in turn, from a place on.
func saw(count, from int) []api.Jump {
	var f []api.Jump
	for i := range count {
		f = append(f, api.Jump{At: from + i, Net: 1 - 2*(i%2)})
	}
	return f
}

// stairs is a function with so many jumps up, each as great as one may be, from a place on.
func stairs(count, from int) []api.Jump {
	var f []api.Jump
	for i := range count {
		f = append(f, api.Jump{At: from + i, Net: maxNet})
	}
	return f
}

// behind is a function with one more jump behind it.
func behind(f []api.Jump, at, net int) []api.Jump {
	return append(slices.Clone(f), api.Jump{At: at, Net: net})
}

// over are all functions that jump at some of these places, by some of these sizes.
func over(places []int, sizes ...int) [][]api.Jump {
	l := [][]api.Jump{nil}
	for _, at := range places {
		for _, f := range l {
			for _, net := range sizes {
				l = append(l, behind(f, at, net))
			}
		}
	}
	return l
}

// few are functions enough to look at all pairs and triples of them.
func few() [][]api.Jump { return over([]int{before, 0, 3}, -1, 1, 2) }

// many are functions of all sorts.
func many() [][]api.Jump {
	l := over([]int{before, 0, 1, 4, last}, -2, 1, 3)
	return append(l,
		jumps(2, 1, 5, -1), jumps(3, 1, 9, -1), jumps(2, 1, 3, 1, 5, -1, 9, -1),
		jumps(before, maxNet), jumps(before, -maxNet, last, maxNet), jumps(0, maxNet, 1, -maxNet, 2, maxNet),
		jumps(5, maxNet, 6, maxNet, 7, maxNet), jumps(5, -maxNet, 6, -maxNet, 7, 1),
		saw(maxLen, before), saw(maxLen, 1000), saw(maxLen-1, before), stairs(maxLen, before), stairs(maxLen, forever-maxLen),
	)
}

// none are lists of jumps that are no functions.
func none() [][]api.Jump {
	return [][]api.Jump{
		jumps(3, 0), jumps(0, 0), jumps(2, 1, 3, 0), jumps(2, 1, 3, 0, 4, 1), jumps(before, 0),
		jumps(-2, 1), jumps(-2, 1, 3, 1), jumps(least, 1), jumps(least, 1, most, 1), jumps(-forever, 1),
		jumps(forever, 1), jumps(3, 1, forever, 1), jumps(forever+1, 1), jumps(most, 1), jumps(forever, 0),
		jumps(3, maxNet+1), jumps(3, -maxNet-1), jumps(3, most), jumps(3, least), jumps(2, 1, 3, least+1), jumps(2, least, 3, 1),
		jumps(3, 1, 2, 1), jumps(3, 1, 3, 1), jumps(3, 1, 3, -1), jumps(2, 1, 4, 1, 3, 1), jumps(2, 1, 3, 1, 3, 2), jumps(0, 1, before, 1), jumps(last, 1, 0, -1),
		saw(maxLen+1, before), saw(maxLen+1, 7), saw(5000, 0), make([]api.Jump, 1), make([]api.Jump, maxLen+1), make([]api.Jump, 1<<16),
		append(saw(maxLen, 0), api.Jump{}),
	}
}

// far are places at the ends of the instants, and beyond.
func far() []int {
	return []int{least, least + 1, -forever, -2, before, 0, 1, last - 1, last, forever, forever + 1, most - 1, most}
}

// valueAt is the sum of what is not behind a place.
func valueAt(f []api.Jump, t int) int {
	sum := 0
	for _, j := range f {
		if j.At > t {
			break
		}
		sum += j.Net
	}
	return sum
}

// turns are the instants at which one of the functions may change, those next to them, and the first and the last one.
func turns(l ...[]api.Jump) []int {
	ts := []int{before, 0, last - 1, last}
	for _, f := range l {
		for _, j := range f {
			ts = append(ts, max(j.At-1, before), j.At, min(j.At+1, last))
		}
	}
	slices.Sort(ts)
	return slices.Compact(ts)
}

// jumpsOf are the jumps by which a function has these values at these instants, however great or many they are; it changes nowhere else.
func jumpsOf(ts []int, value func(t int) int) []api.Jump {
	var f []api.Jump
	was := 0
	for _, t := range ts {
		if now := value(t); now != was {
			f = append(f, api.Jump{At: t, Net: now - was})
			was = now
		}
	}
	return f
}

// thereIsRoom tells whether so many jumps of such sizes may be.
func thereIsRoom(f []api.Jump) bool {
	for _, j := range f {
		if j.Net > maxNet || j.Net < -maxNet {
			return false
		}
	}
	return len(f) <= maxLen
}

// expect holds an answer against the jumps that it has to be, or against ErrFull if there is no room for them.
func expect(t *testing.T, got []api.Jump, e api.Errno, want []api.Jump) {
	t.Helper()
	if !thereIsRoom(want) {
		if len(got) != 0 || e != api.ErrFull {
			t.Fatalf("no room for %d jumps: told %d, error %d", len(want), len(got), e)
		}
		return
	}
	if !slices.Equal(got, want) || e != api.OK {
		t.Fatalf("%v, error %d, and not %v", got, e, want)
	}
}

// P9.1
func TestMay(t *testing.T) {
	for _, f := range append(many(), nil, []api.Jump{}) {
		if !step.May(f) {
			t.Error(f)
		}
	}
	for _, f := range none() {
		if step.May(f) {
			t.Error(len(f), f[:min(len(f), 4)])
		}
	}
}

// P9.1
func TestNorm(t *testing.T) {
	tests := []struct {
		l    []api.Jump
		want []api.Jump
		e    api.Errno
	}{
		{nil, nil, api.OK},
		{jumps(5, -1, 2, 2, 2, -1, forever, 4), jumps(2, 1, 5, -1), api.OK},
		{jumps(3, 7), jumps(3, 7), api.OK},
		{jumps(last, 1, before, 1, 0, 1), jumps(before, 1, 0, 1, last, 1), api.OK},
		{jumps(3, 1, 3, -1), nil, api.OK},
		{jumps(3, 1, 2, 1, 3, -1), jumps(2, 1), api.OK},
		{jumps(3, 0), nil, api.OK},
		{jumps(3, 0, 4, 1, 3, 0), jumps(4, 1), api.OK},
		{jumps(before, 2, before, 3, before, -1), jumps(before, 4), api.OK},
		{jumps(forever, 1), nil, api.OK},
		{jumps(forever, maxNet, forever, maxNet, 1, 1), jumps(1, 1), api.OK},
		{jumps(forever, 0, last, 5), jumps(last, 5), api.OK},
		{jumps(3, maxNet, 3, maxNet, 3, -maxNet), jumps(3, maxNet), api.OK}, // only the whole counts
		{jumps(3, -maxNet, 4, maxNet, 3, -maxNet, 3, maxNet), jumps(3, -maxNet, 4, maxNet), api.OK},
		{jumps(3, maxNet, 3, 1), nil, api.ErrFull},
		{jumps(3, -1, 3, -maxNet), nil, api.ErrFull},
		{jumps(3, maxNet, 3, maxNet), nil, api.ErrFull},
		{jumps(3, maxNet-1, 3, 1), jumps(3, maxNet), api.OK},
		{jumps(3, 1-maxNet, 3, -1), jumps(3, -maxNet), api.OK},
		{jumps(3, maxNet+1), nil, api.ErrArg},
		{jumps(3, -maxNet-1), nil, api.ErrArg},
		{jumps(3, most), nil, api.ErrArg},
		{jumps(3, least), nil, api.ErrArg},
		{jumps(3, maxNet+1, 3, -1), nil, api.ErrArg},
		{jumps(3, most, 3, most, 3, 2), nil, api.ErrArg}, // not a sum that wraps round to nought
		{jumps(forever, maxNet+1), nil, api.ErrArg},
		{jumps(forever, 1<<21), nil, api.ErrArg},
		{jumps(-2, 1<<21), nil, api.ErrArg},
		{jumps(-2, 1, 3, maxNet+1), nil, api.ErrArg}, // told ahead of a place that may not be
		{jumps(-2, 1), nil, api.ErrTime},
		{jumps(-2, 0), nil, api.ErrTime},
		{jumps(forever+1, 1), nil, api.ErrTime},
		{jumps(least, 1), nil, api.ErrTime},
		{jumps(most, 1), nil, api.ErrTime},
		{jumps(1, 1, forever, 1, forever+1, 1), nil, api.ErrTime},
		{jumps(-2, 1, -2, -1), nil, api.ErrTime},
		{jumps(3, maxNet, 3, maxNet, -2, 1), nil, api.ErrTime}, // told ahead of that there is no room
	}
	for _, x := range tests {
		if f, e := step.Norm(x.l...); !slices.Equal(f, x.want) || e != x.e {
			t.Errorf("%v: %v, error %d", x.l, f, e)
		}
	}
	if f, e := step.Norm(); len(f) != 0 || e != api.OK {
		t.Error(f, e)
	}
}

// P9.1: only jumps that are left count.
func TestNormOfMany(t *testing.T) {
	full := saw(maxLen, before)
	one := full[5]
	tests := []struct {
		l []api.Jump
		e api.Errno
	}{
		{full, api.OK},
		{behind(full, 5000, 1), api.ErrFull},
		{behind(full, forever, 1), api.OK},
		{behind(full, 5000, 0), api.OK},
		{append(behind(full, one.At, -one.Net), one), api.OK},
		{append(behind(full, 5000, 1), api.Jump{At: 5000, Net: -1}), api.OK},
		{append(behind(full, one.At, -one.Net), api.Jump{At: 5000, Net: 1}), api.OK},
		{saw(maxLen+1, 0), api.ErrFull},
		{saw(1<<16, 0), api.ErrFull},
	}
	for i, x := range tests {
		f, e := step.Norm(x.l...)
		if e != x.e || (e == api.OK && (len(f) > maxLen || len(f) < maxLen-1)) || (e != api.OK && len(f) != 0) {
			t.Error(i, len(f), e)
		}
	}
	var l []api.Jump
	for i := range 1 << 16 { // two at each of so many places, far from each other
		l = append(l, api.Jump{At: i % (1 << 15), Net: 1 - 2*(i>>15)})
	}
	if f, e := step.Norm(l...); len(f) != 0 || e != api.OK {
		t.Error(len(f), e)
	}
	if f, e := step.Norm(slices.Repeat(jumps(7, 1), maxNet)...); !slices.Equal(f, jumps(7, maxNet)) || e != api.OK {
		t.Error(f, e)
	}
	if f, e := step.Norm(slices.Repeat(jumps(7, 1), maxNet+1)...); len(f) != 0 || e != api.ErrFull {
		t.Error(f, e)
	}
}

// P9.1: a function stays as it is, and comes out of its jumps in whichever order and pieces.
func TestNormOfFunctions(t *testing.T) {
	for _, f := range many() {
		backwards := slices.Clone(f)
		slices.Reverse(backwards)
		var pieces []api.Jump
		for _, j := range backwards {
			half := j.Net / 2
			pieces = append(pieces, api.Jump{At: j.At, Net: half})
			pieces = slices.Insert(pieces, 0, api.Jump{At: j.At, Net: j.Net - half})
		}
		for _, l := range [][]api.Jump{f, backwards, pieces} {
			if g, e := step.Norm(l...); !slices.Equal(g, f) || e != api.OK {
				t.Fatal(l, g, e)
			}
		}
	}
}

// P9.1
func TestAt(t *testing.T) {
	f := jumps(2, 1, 5, -1)
	for at, want := range map[int]int{1: 0, 2: 1, 3: 1, 4: 1, 5: 0, 6: 0} {
		if n := step.At(f, at); n != want {
			t.Error(at, n)
		}
	}
	for _, f := range many() {
		for _, at := range append(turns(f), far()...) {
			if n := step.At(f, at); n != valueAt(f, at) {
				t.Fatal(f, at, n)
			}
		}
		if step.At(f, most) != step.At(f, last) || step.At(f, forever) != step.At(f, last) || step.At(f, -2) != 0 || step.At(f, least) != 0 {
			t.Fatal(f)
		}
	}
	if n := step.At(stairs(maxLen, before), last); n != maxLen*maxNet {
		t.Fatal(n)
	}
	for _, f := range none() {
		for _, at := range append(far(), 2, 3, 4, 9) {
			if n := step.At(f, at); n != 0 {
				t.Fatal(f, at, n)
			}
		}
	}
}

// P9.1
func TestLeast(t *testing.T) {
	tests := []struct {
		f    []api.Jump
		want int
	}{
		{nil, 0},
		{jumps(before, 3, 4, -1), 2},
		{jumps(before, 3), 3},
		{jumps(before, 3, 0, 1), 3},
		{jumps(before, 3, 0, -1), 2},
		{jumps(before, 3, last, -4), -1},
		{jumps(0, 3), 0}, // it is 0 at one instant
		{jumps(0, 3, 4, -1), 0},
		{jumps(last, 1), 0},
		{jumps(2, -1), -1},
		{jumps(2, -1, 3, 5), -1},
		{jumps(2, 5, 3, -7, 4, 1, 6, -3, 9, 4), -4},
		{jumps(before, -2, 3, 1), -2},
		{jumps(before, -2, 0, 5, 3, -9), -6},
		{stairs(maxLen, before), maxNet},
		{stairs(maxLen, 0), 0},
	}
	for _, x := range tests {
		if n := step.Least(x.f); n != x.want {
			t.Error(x.f, n)
		}
	}
	for _, f := range many() {
		want := most
		for _, at := range turns(f) {
			want = min(want, valueAt(f, at))
		}
		if n := step.Least(f); n != want {
			t.Fatal(f, n, want)
		}
	}
	for _, f := range append(none(), jumps(2, -1, 2, -1), jumps(before, 4, 5, 0), jumps(3, -1, 2, -1), jumps(3, -maxNet-1)) {
		if n := step.Least(f); n != 0 {
			t.Fatal(f, n)
		}
	}
}

// operation is one that makes a function of two, and what it does to their values.
type operation struct {
	name string
	call func(f, g []api.Jump) ([]api.Jump, api.Errno)
	op   func(x, y int) int
}

func operations() []operation {
	return []operation{
		{"Add", step.Add, func(x, y int) int { return x + y }},
		{"Mul", step.Mul, func(x, y int) int { return x * y }},
		{"Where", step.Where, func(x, y int) int {
			if y == 0 {
				return x
			}
			return 0
		}},
	}
}

// P9.2: the document's examples, and others.
func TestOfTwo(t *testing.T) {
	f, g := jumps(2, 1, 5, -1), jumps(3, 1, 9, -1)
	tests := []struct {
		call func(f, g []api.Jump) ([]api.Jump, api.Errno)
		f, g []api.Jump
		want []api.Jump
	}{
		{step.Add, f, g, jumps(2, 1, 3, 1, 5, -1, 9, -1)},
		{step.Add, f, jumps(5, 1, 7, -1), jumps(2, 1, 7, -1)}, // where one ends and the other begins there is no jump
		{step.Add, f, jumps(2, -1, 5, 1), nil},
		{step.Add, nil, nil, nil},
		{step.Add, nil, g, g},
		{step.Add, jumps(before, maxNet), jumps(before, -maxNet), nil},
		{step.Mul, f, g, jumps(3, 1, 5, -1)},
		{step.Mul, f, nil, nil},
		{step.Mul, f, jumps(5, 1, 7, -1), nil},
		{step.Mul, f, jumps(before, 1), f},
		{step.Mul, f, jumps(before, -3), jumps(2, -3, 5, 3)},
		{step.Mul, jumps(2, 2, 3, 3), jumps(3, -4), jumps(3, -20)},
		{step.Mul, jumps(before, 1<<10), jumps(before, 1<<10), jumps(before, maxNet)},
		{step.Mul, jumps(before, 1<<10), jumps(before, -1<<10), jumps(before, -maxNet)},
		{step.Where, f, g, jumps(2, 1, 3, -1)},
		{step.Where, g, f, jumps(5, 1, 9, -1)},
		{step.Where, f, nil, f},
		{step.Where, nil, f, nil},
		{step.Where, f, f, nil},
		{step.Where, f, jumps(before, -1), nil}, // it is not only where the other is above 0 that there is nothing
		{step.Where, jumps(before, 5), f, jumps(before, 5, 2, -5, 5, 5)},
		{step.Where, jumps(before, 5), jumps(2, 1, 3, 1, 4, -1, 5, -1), jumps(before, 5, 2, -5, 5, 5)},
	}
	for i, x := range tests {
		if h, e := x.call(x.f, x.g); !slices.Equal(h, x.want) || e != api.OK {
			t.Error(i, h, e)
		}
	}
}

// P9.2: at each instant.
func TestOfTwoAtEachInstant(t *testing.T) {
	for _, o := range operations() {
		for _, f := range few() {
			for _, g := range few() {
				h, e := o.call(f, g)
				expect(t, h, e, jumpsOf(turns(f, g), func(at int) int { return o.op(valueAt(f, at), valueAt(g, at)) }))
			}
		}
	}
}

// P9.2: great ones and long ones, whether there is room or not.
func TestOfTwoGreat(t *testing.T) {
	l := many()[1<<10:]
	l = append(l, nil, jumps(before, 1), jumps(before, 2), jumps(0, maxNet), jumps(0, 1<<10), jumps(0, -1<<10, 7, 1), jumps(9, 1<<10+1),
		saw(maxLen/2, 1), saw(maxLen/2, 1+maxLen/2), saw(maxLen/2+1, 4000), saw(maxLen, 4000))
	room, full := map[string]int{}, map[string]int{}
	for _, o := range operations() {
		for _, f := range l {
			for _, g := range l {
				want := jumpsOf(turns(f, g), func(at int) int { return o.op(valueAt(f, at), valueAt(g, at)) })
				if thereIsRoom(want) {
					room[o.name]++
				} else {
					full[o.name]++
				}
				h, e := o.call(f, g)
				expect(t, h, e, want)
			}
		}
	}
	for _, o := range operations() {
		if room[o.name] == 0 || full[o.name] == 0 {
			t.Error(o.name, room[o.name], full[o.name])
		}
	}
}

// P9.2: at the bounds.
func TestOfTwoRoom(t *testing.T) {
	tests := []struct {
		call func(f, g []api.Jump) ([]api.Jump, api.Errno)
		f, g []api.Jump
		e    api.Errno
	}{
		{step.Add, jumps(3, maxNet), jumps(3, 1), api.ErrFull},
		{step.Add, jumps(3, maxNet), jumps(4, maxNet), api.OK},
		{step.Add, jumps(3, maxNet-1), jumps(3, 1), api.OK},
		{step.Add, jumps(3, -maxNet), jumps(3, -1), api.ErrFull},
		{step.Add, saw(maxLen, 0), jumps(3, 5), api.OK},
		{step.Add, saw(maxLen, 0), jumps(2000, 1), api.ErrFull},
		{step.Add, saw(maxLen, 0), jumps(before, 1), api.ErrFull},
		{step.Add, saw(maxLen, 0), jumps(3, 1, 2000, 1), api.OK}, // one fewer, one more
		{step.Add, saw(maxLen/2, 0), saw(maxLen/2, 3000), api.OK},
		{step.Add, saw(maxLen/2, 0), saw(maxLen/2+1, 3000), api.ErrFull},
		{step.Mul, jumps(3, 1<<10), jumps(3, 1<<10+1), api.ErrFull},
		{step.Mul, jumps(3, maxNet), jumps(5, 1), api.OK},
		{step.Mul, jumps(3, maxNet), jumps(5, 2), api.ErrFull},
		{step.Mul, jumps(3, maxNet), jumps(5, -1), api.OK},
		{step.Mul, jumps(3, maxNet), jumps(5, 1, 6, -2), api.ErrFull}, // each value may be, the jump between them not
		{step.Mul, jumps(3, maxNet), jumps(5, 1, 6, 1, 7, 1), api.OK},
		{step.Mul, stairs(maxLen, 0), stairs(maxLen, 0), api.ErrFull},
		{step.Mul, stairs(maxLen, 0), stairs(maxLen, 4000), api.ErrFull}, // 2^50 at most, not wrapped round
		{step.Mul, saw(maxLen, 0), jumps(before, 7), api.OK},
		{step.Mul, jumps(before, 1), saw(maxLen, 0), api.OK},
		{step.Where, stairs(3, 0), jumps(before, 1, 2, -1), api.ErrFull}, // it comes out at once
		{step.Where, stairs(3, 0), jumps(before, 1, 0, -1), api.OK},
		{step.Where, jumps(before, 1), saw(maxLen-1, 0), api.OK},
		{step.Where, jumps(before, 1), saw(maxLen, 0), api.ErrFull}, // one more than the other has
		{step.Where, stairs(2, 0), jumps(5, 1), api.ErrFull},        // it goes away at once
	}
	for i, x := range tests {
		h, e := x.call(x.f, x.g)
		if e != x.e || (e == api.OK) == (len(h) == 0) {
			t.Error(i, len(h), e)
		}
	}
}

// P9.2: what is no function is told, whatever the other is.
func TestOfTwoNone(t *testing.T) {
	for _, o := range operations() {
		for _, f := range none() {
			for _, g := range append(none(), nil, jumps(2, 1), jumps(3, maxNet), saw(maxLen, 0)) {
				if h, e := o.call(f, g); len(h) != 0 || e != api.ErrArg {
					t.Fatal(o.name, f, g, h, e)
				}
				if h, e := o.call(g, f); len(h) != 0 || e != api.ErrArg {
					t.Fatal(o.name, g, f, h, e)
				}
			}
		}
	}
}

// P9.2
func TestNeg(t *testing.T) {
	if f, e := step.Neg(jumps(before, -3, 2, 1, 5, maxNet, last, -maxNet)); e != api.OK || !slices.Equal(f, jumps(before, 3, 2, -1, 5, -maxNet, last, maxNet)) {
		t.Fatal(f, e)
	}
	for _, f := range many() {
		g, e := step.Neg(f)
		expect(t, g, e, jumpsOf(turns(f), func(at int) int { return -valueAt(f, at) }))
		if back, e := step.Neg(g); e != api.OK || !slices.Equal(back, f) {
			t.Fatal(f, g, back, e)
		}
	}
	for _, f := range none() {
		if g, e := step.Neg(f); len(g) != 0 || e != api.ErrArg {
			t.Fatal(f, g, e)
		}
	}
}

// P9.2
func TestAhead(t *testing.T) {
	f := jumps(2, 1, 3, 1, 5, -1, 9, -1)
	tests := []struct {
		f    []api.Jump
		at   int
		want []api.Jump
	}{
		{f, 2, nil},
		{f, 3, jumps(2, 1, 3, -1)},
		{f, 4, jumps(2, 1, 3, 1, 4, -2)},
		{f, 5, jumps(2, 1, 3, 1, 5, -2)},
		{f, 9, jumps(2, 1, 3, 1, 5, -1, 9, -1)},
		{f, 10, f},
		{f, last, f},
		{f, forever, f},
		{f, most, f},
		{f, before, nil},
		{f, least, nil},
		{nil, 4, nil},
		{jumps(before, 2), before, nil},
		{jumps(before, 2), -2, nil},
		{jumps(before, 2), 0, jumps(before, 2, 0, -2)},
		{jumps(before, 2), last, jumps(before, 2, last, -2)},
		{jumps(before, 2), forever, jumps(before, 2)}, // there is no instant from there on
		{jumps(before, 2), forever + 1, jumps(before, 2)},
		{jumps(before, 2), most, jumps(before, 2)},
		{jumps(last, -1), last, nil},
		{jumps(last, -1), forever, jumps(last, -1)},
		{jumps(3, -1), 7, jumps(3, -1, 7, 1)},
	}
	for _, x := range tests {
		if g, e := step.Ahead(x.f, x.at); !slices.Equal(g, x.want) || e != api.OK {
			t.Errorf("%v ahead of %d: %v, error %d", x.f, x.at, g, e)
		}
	}
}

// P9.2
func TestRest(t *testing.T) {
	f := jumps(2, 1, 3, 1, 5, -1, 9, -1)
	tests := []struct {
		f    []api.Jump
		at   int
		want []api.Jump
	}{
		{f, 4, jumps(before, 2, 5, -1, 9, -1)},
		{f, 3, jumps(before, 1, 3, 1, 5, -1, 9, -1)},
		{f, 2, f},
		{f, 0, f},
		{f, before, f},
		{f, -2, f},
		{f, least, f},
		{f, 5, jumps(before, 2, 5, -1, 9, -1)},
		{f, 6, jumps(before, 1, 9, -1)},
		{f, 9, jumps(before, 1, 9, -1)},
		{f, 10, nil},
		{f, last, nil},
		{nil, 4, nil},
		{jumps(2, 1), last, jumps(before, 1)},
		{jumps(2, 1), forever, nil},
		{jumps(before, 1), forever, nil},
		{jumps(before, 1), most, nil},
		{jumps(before, 1, last, 1), forever + 1, nil},
		{jumps(before, 1), last, jumps(before, 1)},
		{jumps(before, 1, 0, 1), 0, jumps(before, 1, 0, 1)},
		{jumps(before, 1, 0, 1), 1, jumps(before, 2)},
		{jumps(before, 1, 0, -1, 3, 2), 1, jumps(3, 2)},
		{jumps(last, 1), last, jumps(last, 1)},
		{jumps(3, -2, 8, 1), 7, jumps(before, -2, 8, 1)},
	}
	for _, x := range tests {
		if g, e := step.Rest(x.f, x.at); !slices.Equal(g, x.want) || e != api.OK {
			t.Errorf("%v from %d: %v, error %d", x.f, x.at, g, e)
		}
	}
}

// P9.2, and P9.3: each agrees with the function on its side.
func TestAheadAndRestAtEachInstant(t *testing.T) {
	for _, f := range many() {
		places := turns(f)
		if len(places) > 100 {
			places = places[:100]
		}
		for _, at := range append(places, far()...) {
			ts := slices.Sorted(slices.Values(append(turns(f), min(max(at, before), last))))
			a, e := step.Ahead(f, at)
			expect(t, a, e, jumpsOf(ts, func(t int) int {
				if t < at {
					return valueAt(f, t)
				}
				return 0
			}))
			r, e := step.Rest(f, at)
			expect(t, r, e, jumpsOf(ts, func(t int) int {
				switch {
				case at >= forever:
					return 0
				case at <= before:
					return valueAt(f, t)
				}
				return valueAt(f, max(t, at-1))
			}))
		}
	}
}

// P9.2
func TestAheadAndRestRoom(t *testing.T) {
	high := jumps(3, maxNet, 4, 1)
	if a, e := step.Ahead(high, 4); e != api.OK || !slices.Equal(a, jumps(3, maxNet, 4, -maxNet)) {
		t.Error(a, e)
	}
	if a, e := step.Ahead(high, 5); e != api.ErrFull || len(a) != 0 {
		t.Error(a, e)
	}
	if a, e := step.Ahead(high, last); e != api.ErrFull || len(a) != 0 {
		t.Error(a, e)
	}
	if a, e := step.Ahead(high, forever); e != api.OK || !slices.Equal(a, high) {
		t.Error(a, e)
	}
	if r, e := step.Rest(high, 4); e != api.OK || !slices.Equal(r, jumps(before, maxNet, 4, 1)) {
		t.Error(r, e)
	}
	if r, e := step.Rest(high, 5); e != api.ErrFull || len(r) != 0 {
		t.Error(r, e)
	}
	if r, e := step.Rest(high, last); e != api.ErrFull || len(r) != 0 {
		t.Error(r, e)
	}
	if r, e := step.Rest(high, forever); e != api.OK || len(r) != 0 {
		t.Error(r, e)
	}
	low := jumps(3, -maxNet, 4, -1)
	if a, e := step.Ahead(low, 5); e != api.ErrFull || len(a) != 0 {
		t.Error(a, e)
	}
	if r, e := step.Rest(low, 5); e != api.ErrFull || len(r) != 0 {
		t.Error(r, e)
	}
	odd := behind(saw(maxLen-1, 0), 5000, 7) // as many as there may be, and a value that has to end
	if a, e := step.Ahead(odd, 6000); e != api.ErrFull || len(a) != 0 {
		t.Error(len(a), e)
	}
	if a, e := step.Ahead(odd, 5000); e != api.OK || len(a) != maxLen {
		t.Error(len(a), e)
	}
	if a, e := step.Ahead(odd, forever); e != api.OK || !slices.Equal(a, odd) {
		t.Error(len(a), e)
	}
	if r, e := step.Rest(odd, 1); e != api.OK || len(r) != maxLen || r[0] != (api.Jump{At: before, Net: 1}) {
		t.Error(len(r), e)
	}
}

// P9.2
func TestAheadAndRestOfNone(t *testing.T) {
	for _, f := range none() {
		for _, at := range append(far(), 3, 4) {
			if g, e := step.Ahead(f, at); len(g) != 0 || e != api.ErrArg {
				t.Fatal(f, at, g, e)
			}
			if g, e := step.Rest(f, at); len(g) != 0 || e != api.ErrArg {
				t.Fatal(f, at, g, e)
			}
		}
	}
}

// made is what a call makes of two functions that are small enough for it.
func made(t *testing.T, call func(f, g []api.Jump) ([]api.Jump, api.Errno), f, g []api.Jump) []api.Jump {
	t.Helper()
	h, e := call(f, g)
	if e != api.OK {
		t.Fatal(f, g, e)
	}
	return h
}

// P9.3
func TestAddAndMulCommute(t *testing.T) {
	l := append(few(), many()[1<<10:]...)
	for _, f := range l {
		for _, g := range l {
			for _, call := range []func(f, g []api.Jump) ([]api.Jump, api.Errno){step.Add, step.Mul} {
				a, e := call(f, g)
				if b, other := call(g, f); !slices.Equal(a, b) || e != other {
					t.Fatal(f, g, a, e, b, other)
				}
			}
		}
	}
}

// P9.3: of small ones, all triples.
func TestAddIsAssociativeAndMulDistributes(t *testing.T) {
	for _, f := range few() {
		for _, g := range few() {
			sum, product := made(t, step.Add, f, g), made(t, step.Mul, f, g)
			for _, h := range few() {
				others := made(t, step.Add, g, h)
				if a, b := made(t, step.Add, sum, h), made(t, step.Add, f, others); !slices.Equal(a, b) {
					t.Fatal(f, g, h, a, b)
				}
				a, b := made(t, step.Mul, f, others), made(t, step.Add, product, made(t, step.Mul, f, h))
				if !slices.Equal(a, b) {
					t.Fatal(f, g, h, a, b)
				}
			}
		}
	}
}

// overwrite fills all that a list has room for.
func overwrite(f []api.Jump) {
	whole := f[:cap(f)]
	for i := range whole {
		whole[i] = api.Jump{At: 77, Net: 99}
	}
}

// P3: what is told shares no memory with what it is of, and nothing is written behind an argument.
func TestArgumentsStay(t *testing.T) {
	calls := []func(f, g []api.Jump) ([]api.Jump, api.Errno){
		step.Add, step.Mul, step.Where,
		func(f, g []api.Jump) ([]api.Jump, api.Errno) { return step.Norm(f...) },
		func(f, g []api.Jump) ([]api.Jump, api.Errno) { return step.Neg(f) },
		func(f, g []api.Jump) ([]api.Jump, api.Errno) { return step.Ahead(f, 4) },
		func(f, g []api.Jump) ([]api.Jump, api.Errno) { return step.Ahead(f, most) },
		func(f, g []api.Jump) ([]api.Jump, api.Errno) { return step.Rest(f, 4) },
		func(f, g []api.Jump) ([]api.Jump, api.Errno) { return step.Rest(f, least) },
	}
	whole := jumps(2, 1, 5, -1, 7, 1, 9, 3, 8, 4)
	second := jumps(3, 1, 6, 1, 4, 1)
	for i, call := range calls {
		f, g := slices.Clone(whole), slices.Clone(second)
		for _, left := range [][]api.Jump{f[:3], f[:0], f[:4]} {
			for _, right := range [][]api.Jump{g[:2], nil, jumps(before, 1)} {
				h, e := call(left, right)
				k, _ := call(left, right)
				kept := slices.Clone(k)
				if e != api.OK || !slices.Equal(f, whole) || !slices.Equal(g, second) {
					t.Fatal(i, e, f, g)
				}
				overwrite(h)
				if !slices.Equal(f, whole) || !slices.Equal(g, second) || !slices.Equal(k, kept) {
					t.Fatal(i, "shared")
				}
			}
		}
	}
	l := jumps(9, 1, 2, 1, 2, 1, forever, 1, -2, 1)
	before := slices.Clone(l)
	step.Norm(l[:4]...)
	step.Norm(l...)
	if !slices.Equal(l, before) {
		t.Fatal("put in order where they stood")
	}
}
