package lean_test

import (
	"math"
	"testing"

	"rescind/api"
	"rescind/lean"
)

const (
	most    = math.MaxInt64
	least   = math.MinInt64
	maxNet  = 1 << 20
	forever = 1 << 50
)

// entry is a number, and how often it is put.
type entry struct{ v, n int }

// model is a sum of turns by the words of the document.
type model struct{ x, y int }

func (m *model) put(v, n int) {
	switch (v%4 + 4) % 4 {
	case 0:
		m.x += n
	case 1:
		m.y += n
	case 2:
		m.x -= n
	case 3:
		m.y -= n
	}
}

// expect holds the parts of a lean against those that must be.
func expect(t *testing.T, what string, l *lean.Lean, x, y int) {
	t.Helper()
	if gotX, gotY := l.Parts(); gotX != x || gotY != y {
		t.Fatalf("%s: %d and %d, and not %d and %d", what, gotX, gotY, x, y)
	}
}

// put makes puts that must do.
func put(t *testing.T, l *lean.Lean, entries ...entry) {
	t.Helper()
	for _, x := range entries {
		if e := l.Put(x.v, x.n); e != api.OK {
			t.Fatalf("put %d %d times: error %d", x.v, x.n, e)
		}
	}
}

// of is a lean with these parts, of whichever size.
func of(t *testing.T, x, y int) *lean.Lean {
	t.Helper()
	l := lean.New()
	add := func(direction, n int) {
		if n < 0 {
			direction, n = direction+2, -n
		}
		one := lean.New()
		put(t, one, entry{direction, 1})
		for ; n > 0; n /= 2 {
			if n%2 == 1 && l.Join(one) != api.OK {
				t.Fatal("join", x, y)
			}
			if n > 1 && one.Join(one.Spun(0)) != api.OK {
				t.Fatal("join", x, y)
			}
		}
	}
	add(0, x)
	add(1, y)
	expect(t, "a lean by joins", l, x, y)
	return l
}

// P25.1: the document's directions and example, and the ends of the numbers.
func TestUnit(t *testing.T) {
	tests := []struct{ v, x, y int }{
		{0, 1, 0}, {1, 0, 1}, {2, -1, 0}, {3, 0, -1}, {4, 1, 0}, {5, 0, 1}, {6, -1, 0}, {7, 0, -1},
		{-1, 0, -1}, {-2, -1, 0}, {-3, 0, 1}, {-4, 1, 0}, {-5, 0, -1},
		{least, 1, 0}, {least + 1, 0, 1}, {least + 2, -1, 0}, {least + 3, 0, -1},
		{most, 0, -1}, {most - 1, -1, 0}, {most - 2, 0, 1}, {most - 3, 1, 0},
		{1 << 53, 1, 0}, {1<<53 + 1, 0, 1}, {1<<62 + 3, 0, -1}, {-1<<62 - 1, 0, -1},
	}
	for _, test := range tests {
		if x, y := lean.Unit(test.v); x != test.x || y != test.y {
			t.Errorf("%d: %d and %d, and not %d and %d", test.v, x, y, test.x, test.y)
		}
	}
	for v := -1000; v <= 1000; v++ {
		want := model{}
		want.put(v, 1)
		if x, y := lean.Unit(v); x != want.x || y != want.y {
			t.Errorf("%d: %d and %d, and not %d and %d", v, x, y, want.x, want.y)
		}
	}
}

// P25.1: the document's example, and a lean without numbers.
func TestPut(t *testing.T) {
	l, other := lean.New(), lean.New()
	expect(t, "no numbers", l, 0, 0)
	put(t, l, entry{1, 2}, entry{3, 1}, entry{0, 5})
	expect(t, "the example", l, 5, 1)
	expect(t, "another one", other, 0, 0)
	put(t, l, entry{7, 0}, entry{0, 0})
	expect(t, "none put", l, 5, 1)
	put(t, l, entry{2, 7}, entry{-1, 3})
	expect(t, "below nought", l, -2, -2)
	put(t, l, entry{2, -7}, entry{-1, -3})
	expect(t, "taken out", l, 5, 1)
	put(t, l, entry{least, 1}, entry{most, 1}, entry{0, maxNet}, entry{1, -maxNet})
	expect(t, "the ends", l, 6+maxNet, -maxNet)
}

// P25.1: how often a number may be put; with an error nothing changes.
func TestPutTooOften(t *testing.T) {
	for _, n := range []int{maxNet + 1, -maxNet - 1, maxNet * 2, forever, most, least} {
		for v := -4; v <= 4; v++ {
			l := lean.New()
			put(t, l, entry{0, 5}, entry{1, 1})
			if e := l.Put(v, n); e != api.ErrArg {
				t.Errorf("put %d %d times: error %d", v, n, e)
			}
			expect(t, "refused", l, 5, 1)
		}
	}
}

// P25.1: each part may be as great as the end of the ticks, and no greater.
func TestPutTooFar(t *testing.T) {
	for v := range 4 {
		for _, n := range []int{1, 2, 1000, maxNet} {
			x, y := lean.Unit(v)
			l := of(t, x*(forever-n), y*(forever-n))
			put(t, l, entry{v, n})
			expect(t, "at the end", l, x*forever, y*forever)
			for _, bad := range []entry{{v, 1}, {v, maxNet}, {v + 2, -1}, {v - 2, -maxNet}} {
				if e := l.Put(bad.v, bad.n); e != api.ErrOver {
					t.Errorf("put %d %d times: error %d", bad.v, bad.n, e)
				}
			}
			if e := l.Put(v, maxNet+1); e != api.ErrArg {
				t.Error("both errors:", e)
			}
			expect(t, "refused", l, x*forever, y*forever)
			put(t, l, entry{v, 0}, entry{v + 1, 3}, entry{v + 1, -3}, entry{v, -n})
			expect(t, "back again", l, x*(forever-n), y*(forever-n))
			if e := l.Put(v, n+1); e != api.ErrOver && n < maxNet {
				t.Errorf("one too far: error %d", e)
			}
		}
	}
}

// P25.1: great parts are exact.
func TestExact(t *testing.T) {
	l, want := of(t, forever-1000, 1001-forever), model{forever - 1000, 1001 - forever}
	for i := range 400 {
		v, n := i*7%11-5, i%3-1
		put(t, l, entry{v, n})
		want.put(v, n)
		expect(t, "great parts", l, want.x, want.y)
	}
	s := l.Spun(1)
	expect(t, "great parts, spun", s, -want.y, want.x)
}

// P25.2: the document's example, all quarter turns, and the ends of the numbers.
func TestSpun(t *testing.T) {
	l := of(t, 5, 1)
	expect(t, "the example", l.Spun(1), -1, 5)
	tests := []struct{ q, x, y int }{
		{0, 5, 1}, {2, -5, -1}, {3, 1, -5}, {4, 5, 1}, {5, -1, 5}, {-1, 1, -5}, {-2, -5, -1}, {-3, -1, 5}, {-4, 5, 1},
		{least, 5, 1}, {least + 1, -1, 5}, {most, 1, -5}, {most - 1, -5, -1},
	}
	for _, test := range tests {
		expect(t, "spun", l.Spun(test.q), test.x, test.y)
		expect(t, "the one that was spun", l, 5, 1)
	}
	far := of(t, forever, -forever)
	expect(t, "far, to the left", far.Spun(1), forever, forever)
	expect(t, "far, to the right", far.Spun(-1), -forever, -forever)
}

// P25.2: what is spun is a lean of its own, even by no turn.
func TestSpunIsNew(t *testing.T) {
	for q := -4; q <= 4; q++ {
		l := of(t, 5, 1)
		s := l.Spun(q)
		x, y := s.Parts()
		put(t, l, entry{0, 3}, entry{1, 3})
		expect(t, "what was spun", s, x, y)
		put(t, s, entry{2, 9})
		expect(t, "what it was made of", l, 8, 4)
	}
}

// P25.2: a join adds both parts, and leaves the other one as it is.
func TestJoin(t *testing.T) {
	tests := []struct{ a, b, want model }{
		{model{}, model{}, model{}},
		{model{5, 1}, model{}, model{5, 1}},
		{model{}, model{5, 1}, model{5, 1}},
		{model{5, 1}, model{-5, 3}, model{0, 4}},
		{model{-7, -2}, model{-1, -1}, model{-8, -3}},
		{model{forever, -forever}, model{-1, 1}, model{forever - 1, 1 - forever}},
		{model{forever - 1, 3}, model{1, -4}, model{forever, -1}},
		{model{forever, forever}, model{-forever, -forever}, model{}},
		{model{1 - forever, forever - 7}, model{-1, 7}, model{-forever, forever}},
	}
	for _, test := range tests {
		l, m := of(t, test.a.x, test.a.y), of(t, test.b.x, test.b.y)
		if e := l.Join(m); e != api.OK {
			t.Errorf("%d and %d: error %d", test.a, test.b, e)
		}
		expect(t, "joined", l, test.want.x, test.want.y)
		expect(t, "the other one", m, test.b.x, test.b.y)
		put(t, m, entry{0, 1})
		expect(t, "joined, later on", l, test.want.x, test.want.y)
	}
	l := of(t, 5, 1)
	if e := l.Join(l); e != api.OK {
		t.Error(e)
	}
	expect(t, "a lean and itself", l, 10, 2)
}

// P25.2: no join leads too far, by either part; with an error nothing changes.
func TestJoinTooFar(t *testing.T) {
	tests := []struct{ a, b model }{
		{model{forever, 0}, model{1, 0}},
		{model{-forever, 0}, model{-1, 0}},
		{model{0, forever}, model{0, 1}},
		{model{0, -forever}, model{0, -1}},
		{model{forever - 5, 3}, model{6, 4}},
		{model{3, 5 - forever}, model{4, -6}},
		{model{forever, forever}, model{forever, forever}},
		{model{1, 1}, model{forever, -forever}},
	}
	for _, test := range tests {
		l, m := of(t, test.a.x, test.a.y), of(t, test.b.x, test.b.y)
		if e := l.Join(m); e != api.ErrOver {
			t.Errorf("%d and %d: error %d", test.a, test.b, e)
		}
		expect(t, "refused", l, test.a.x, test.a.y)
		expect(t, "the other one", m, test.b.x, test.b.y)
	}
}

// P25.1 and P25.2
func TestNil(t *testing.T) {
	var none *lean.Lean
	for _, n := range []int{0, 1, -1, maxNet + 1, most, least} {
		if e := none.Put(n, n); e != api.ErrNil {
			t.Error("put", n, e)
		}
		if none.Spun(n) != nil {
			t.Error("spun", n)
		}
	}
	expect(t, "none", none, 0, 0)
	l := of(t, forever, 1)
	if e := l.Join(nil); e != api.ErrNil {
		t.Error("with none:", e)
	}
	if e := none.Join(l); e != api.ErrNil {
		t.Error("none with one:", e)
	}
	if e := none.Join(none); e != api.ErrNil {
		t.Error("none with none:", e)
	}
	expect(t, "joined with none", l, forever, 1)
}

// dice are numbers without a pattern, the same each time.
type dice uint64

func (d *dice) roll(n int) int {
	*d = *d*6364136223846793005 + 1442695040888963407
	return int(uint64(*d)>>33) % n
}

// P25.3: what was put can be removed again, in whichever order.
func TestRemoveAgain(t *testing.T) {
	d := dice(1)
	for range 200 {
		x, y := d.roll(forever), -d.roll(forever)
		l, want := of(t, x, y), model{x, y}
		var entries []entry
		for range 1 + d.roll(40) {
			entries = append(entries, entry{d.roll(2000) - 1000, d.roll(2*maxNet+1) - maxNet})
		}
		for _, x := range entries {
			put(t, l, x)
			want.put(x.v, x.n)
			expect(t, "put", l, want.x, want.y)
		}
		for len(entries) > 0 {
			i := d.roll(len(entries))
			put(t, l, entry{entries[i].v, -entries[i].n})
			entries = append(entries[:i], entries[i+1:]...)
		}
		expect(t, "removed", l, x, y)
	}
}

// P25.3: a lean spun by q is the lean of the numbers increased by q, and four quarter turns change nothing.
func TestSpunNumbers(t *testing.T) {
	d := dice(2)
	for range 300 {
		q := d.roll(1<<30) - 1<<29
		l, further := lean.New(), lean.New()
		for range d.roll(20) {
			v, n := d.roll(1<<30)-1<<29, d.roll(2*maxNet+1)-maxNet
			put(t, l, entry{v, n})
			put(t, further, entry{v + q, n})
		}
		x, y := further.Parts()
		expect(t, "spun", l.Spun(q), x, y)
		x, y = l.Parts()
		expect(t, "spun back", further.Spun(-q), x, y)
		expect(t, "four quarter turns", l.Spun(1).Spun(1).Spun(1).Spun(1), x, y)
		expect(t, "a whole turn", l.Spun(4), x, y)
	}
}

// P25.3: the lean of two lots of numbers is that of both joined.
func TestJoinNumbers(t *testing.T) {
	d := dice(3)
	for range 300 {
		l, m, both := lean.New(), lean.New(), lean.New()
		for range d.roll(30) {
			x := entry{d.roll(100) - 50, d.roll(2*maxNet+1) - maxNet}
			put(t, []*lean.Lean{l, m}[d.roll(2)], x)
			put(t, both, x)
		}
		if e := l.Join(m); e != api.OK {
			t.Fatal(e)
		}
		x, y := both.Parts()
		expect(t, "both", l, x, y)
	}
}
