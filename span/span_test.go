package span_test

import (
	"math"
	"testing"

	"rescind/api"
	"rescind/span"
)

const (
	most  = math.MaxInt64
	least = math.MinInt64
)

func between(from, to int) api.Span { return api.Span{From: from, To: to} }

// small are all spans of the ticks from 0 to 7.
func small() []api.Span {
	var l []api.Span
	for from := 0; from < 7; from++ {
		for to := from + 1; to <= 7; to++ {
			l = append(l, between(from, to))
		}
	}
	return l
}

// wrong are spans that are not valid.
func wrong() []api.Span {
	return []api.Span{
		{}, between(5, 5), between(5, 2), between(-1, 5), between(-2, -1), between(api.Before, 0),
		between(0, api.Forever+1), between(api.Forever, api.Forever), between(api.Forever, api.Forever+1), between(api.Forever+1, api.Forever+2),
		between(least, most), between(most, least), between(0, most), between(least, 1), between(least, least), between(most, most),
	}
}

// far are numbers that may be no ticks, and those about the ends of the ticks.
func far() []int {
	return []int{least, least + 1, -2 * api.Forever, -api.Forever - 1, -api.Forever, -1, 0, 1, api.Forever - 1, api.Forever, api.Forever + 1, 2 * api.Forever, 2*api.Forever + 1, most - 1, most}
}

// P2.1
func TestMay(t *testing.T) {
	valid := append(small(), between(0, api.Forever), between(0, 1), between(api.Forever-1, api.Forever))
	for _, s := range valid {
		if !span.May(s) {
			t.Error(s)
		}
	}
	for _, s := range wrong() {
		if span.May(s) {
			t.Error(s)
		}
	}
}

// P2.1
func TestMake(t *testing.T) {
	tests := []struct {
		from, to int
		e        api.Errno
	}{
		{2, 5, api.OK},
		{0, 1, api.OK},
		{0, api.Forever, api.OK},
		{api.Forever - 1, api.Forever, api.OK},
		{-1, 5, api.ErrTime},
		{0, api.Forever + 1, api.ErrTime},
		{api.Forever + 1, 0, api.ErrTime},
		{5, -1, api.ErrTime}, // no tick, told ahead of the order
		{-1, -1, api.ErrTime},
		{least, most, api.ErrTime},
		{most, least, api.ErrTime},
		{5, 5, api.ErrSpan},
		{5, 2, api.ErrSpan},
		{0, 0, api.ErrSpan},
		{api.Forever, api.Forever, api.ErrSpan},
		{api.Forever, 0, api.ErrSpan},
	}
	for _, x := range tests {
		want := between(x.from, x.to)
		if x.e != api.OK {
			want = api.Span{}
		}
		if s, e := span.Make(x.from, x.to); s != want || e != x.e {
			t.Errorf("from %d to %d: %v, error %d", x.from, x.to, s, e)
		}
	}
}

// P2.1
func TestHas(t *testing.T) {
	for _, s := range small() {
		n := 0
		for tick := -1; tick <= 8; tick++ {
			if has := span.Has(s, tick); has != (s.From <= tick && tick < s.To) {
				t.Fatal(s, tick, has)
			} else if has {
				n++
			}
		}
		if span.Length(s) != n {
			t.Fatal(s, span.Length(s))
		}
	}
	whole := between(0, api.Forever)
	if !span.Has(whole, 0) || !span.Has(whole, api.Forever-1) || span.Has(whole, api.Forever) || span.Has(whole, -1) || span.Has(whole, most) || span.Has(whole, least) {
		t.Fatal("of the whole")
	}
	for _, s := range wrong() {
		for _, tick := range append(far(), 2, 3, 4, 5) {
			if span.Has(s, tick) {
				t.Fatal(s, tick)
			}
		}
	}
}

// P2.1
func TestLength(t *testing.T) {
	if n := span.Length(between(2, 5)); n != 3 {
		t.Fatal(n)
	}
	if n := span.Length(between(0, api.Forever)); n != api.Forever {
		t.Fatal(n)
	}
	for _, s := range wrong() {
		if n := span.Length(s); n != 0 {
			t.Fatal(s, n)
		}
	}
}

// holds fails unless a span has just the small ticks that are said, and is said not to be there if there are none.
func holds(t *testing.T, what string, s api.Span, ok bool, has func(tick int) bool) {
	t.Helper()
	any := false
	for tick := -1; tick <= 8; tick++ {
		if span.Has(s, tick) != has(tick) {
			t.Fatal(what, s, ok, tick)
		}
		any = any || has(tick)
	}
	if ok != any || span.May(s) != ok || !ok && s != (api.Span{}) {
		t.Fatal(what, s, ok)
	}
}

// P2.2
func TestMeet(t *testing.T) {
	for _, a := range small() {
		for _, b := range small() {
			s, ok := span.Meet(a, b)
			holds(t, "meet", s, ok, func(tick int) bool { return span.Has(a, tick) && span.Has(b, tick) })
		}
		for _, b := range wrong() {
			if s, ok := span.Meet(a, b); ok || s != (api.Span{}) {
				t.Fatal(a, b, s)
			}
			if s, ok := span.Meet(b, a); ok || s != (api.Span{}) {
				t.Fatal(b, a, s)
			}
		}
	}
	if s, ok := span.Meet(between(0, api.Forever), between(api.Forever-1, api.Forever)); !ok || s != between(api.Forever-1, api.Forever) {
		t.Fatal(s, ok)
	}
	if s, ok := span.Meet(between(2, 5), between(5, 9)); ok { // they touch, and share nothing
		t.Fatal(s, ok)
	}
}

// P2.2
func TestAheadAndRest(t *testing.T) {
	for _, s := range small() {
		for at := -1; at <= 8; at++ {
			a, ok := span.Ahead(s, at)
			holds(t, "ahead", a, ok, func(tick int) bool { return span.Has(s, tick) && tick < at })
			r, ok := span.Rest(s, at)
			holds(t, "rest", r, ok, func(tick int) bool { return span.Has(s, tick) && tick >= at })
		}
	}
	whole := between(0, api.Forever)
	for _, at := range far() {
		a, inAhead := span.Ahead(whole, at)
		r, inRest := span.Rest(whole, at)
		switch {
		case at <= 0:
			if inAhead || a != (api.Span{}) || !inRest || r != whole {
				t.Fatal(at, a, r)
			}
		case at >= api.Forever:
			if !inAhead || a != whole || inRest || r != (api.Span{}) {
				t.Fatal(at, a, r)
			}
		default:
			if !inAhead || a != between(0, at) || !inRest || r != between(at, api.Forever) {
				t.Fatal(at, a, r)
			}
		}
	}
	for _, s := range wrong() {
		for _, at := range append(far(), 3) {
			if a, ok := span.Ahead(s, at); ok || a != (api.Span{}) {
				t.Fatal(s, at, a)
			}
			if r, ok := span.Rest(s, at); ok || r != (api.Span{}) {
				t.Fatal(s, at, r)
			}
		}
	}
}

// P2.5: each tick of a span is either ahead of a tick or in the rest.
func TestAheadAndRestAreTheSpan(t *testing.T) {
	for _, s := range append(small(), between(0, api.Forever), between(5, api.Forever)) {
		for _, at := range append(far(), 2, 3, 4, 5, 6, 7, 8) {
			a, _ := span.Ahead(s, at)
			r, _ := span.Rest(s, at)
			if span.Length(a)+span.Length(r) != span.Length(s) {
				t.Fatal(s, at, a, r)
			}
			for _, tick := range append(far(), 2, 3, 4, 5, 6, 7, 8) {
				inA, inR := span.Has(a, tick), span.Has(r, tick)
				if inA && inR || (inA || inR) != span.Has(s, tick) {
					t.Fatal(s, at, tick)
				}
			}
		}
	}
}

// P2.3
func TestShift(t *testing.T) {
	tests := []struct {
		s, want api.Span
		d       int
		e       api.Errno
	}{
		{between(2, 5), between(2, 5), 0, api.OK},
		{between(2, 5), between(9, 12), 7, api.OK},
		{between(2, 5), between(0, 3), -2, api.OK},
		{between(2, 5), api.Span{}, -3, api.ErrTime},
		{between(2, 5), between(api.Forever-3, api.Forever), api.Forever - 5, api.OK},
		{between(2, 5), api.Span{}, api.Forever - 4, api.ErrTime},
		{between(0, api.Forever), between(0, api.Forever), 0, api.OK},
		{between(0, api.Forever), api.Span{}, 1, api.ErrTime},
		{between(0, api.Forever), api.Span{}, -1, api.ErrTime},
		{between(api.Forever-1, api.Forever), between(0, 1), 1 - api.Forever, api.OK},
		{between(0, 1), between(api.Forever-1, api.Forever), api.Forever - 1, api.OK},
		{between(0, 1), api.Span{}, api.Forever, api.ErrTime},
		{between(1, 3), between(1<<49+1, 1<<49+3), 1 << 49, api.OK}, // an odd sum of many bits
	}
	for _, x := range tests {
		if s, e := span.Shift(x.s, x.d); s != x.want || e != x.e {
			t.Errorf("%v by %d: %v, error %d", x.s, x.d, s, e)
		}
	}
	for _, d := range []int{api.Forever, api.Forever + 1, most, -api.Forever, -api.Forever - 1, least, 1<<60 + 1} {
		if s, e := span.Shift(between(2, 5), d); s != (api.Span{}) || e != api.ErrTime {
			t.Error(d, s, e)
		}
	}
	for _, s := range wrong() {
		for _, d := range append(far(), 2) { // told ahead of a wrong d
			if x, e := span.Shift(s, d); x != (api.Span{}) || e != api.ErrSpan {
				t.Fatal(s, d, x, e)
			}
		}
	}
}

// P2.3: small spans, small ways; what leaves the ticks at the lower end.
func TestShiftOfSmall(t *testing.T) {
	for _, s := range small() {
		for d := -9; d <= 9; d++ {
			x, e := span.Shift(s, d)
			if s.From+d < 0 {
				if x != (api.Span{}) || e != api.ErrTime {
					t.Fatal(s, d, x, e)
				}
			} else if x != between(s.From+d, s.To+d) || e != api.OK {
				t.Fatal(s, d, x, e)
			}
		}
	}
}

// P2.3
func TestMirror(t *testing.T) {
	tests := []struct {
		s, want api.Span
		sum     int
		e       api.Errno
	}{
		{between(2, 5), between(1, 4), 6, api.OK},
		{between(2, 5), between(2, 5), 7, api.OK},
		{between(2, 5), between(0, 3), 5, api.OK},
		{between(2, 5), api.Span{}, 4, api.ErrTime},
		{between(0, 1), api.Span{}, 0, api.ErrTime},
		{between(0, 1), between(0, 1), 1, api.OK},
		{between(2, 5), between(api.Forever-3, api.Forever), api.Forever + 2, api.OK},
		{between(2, 5), api.Span{}, api.Forever + 3, api.ErrTime},
		{between(0, api.Forever), between(0, api.Forever), api.Forever, api.OK},
		{between(0, api.Forever), api.Span{}, api.Forever - 1, api.ErrTime},
		{between(0, api.Forever), api.Span{}, api.Forever + 1, api.ErrTime},
		{between(api.Forever-1, api.Forever), between(api.Forever-1, api.Forever), 2*api.Forever - 1, api.OK},
		{between(api.Forever-1, api.Forever), api.Span{}, 2 * api.Forever, api.ErrTime},
	}
	for _, x := range tests {
		if s, e := span.Mirror(x.s, x.sum); s != x.want || e != x.e {
			t.Errorf("%v by %d: %v, error %d", x.s, x.sum, s, e)
		}
	}
	for _, sum := range []int{-1, least, 2*api.Forever + 1, most} {
		if s, e := span.Mirror(between(2, 5), sum); s != (api.Span{}) || e != api.ErrTime {
			t.Error(sum, s, e)
		}
	}
	for _, s := range wrong() {
		for _, sum := range append(far(), 6) { // told ahead of a wrong sum
			if x, e := span.Mirror(s, sum); x != (api.Span{}) || e != api.ErrSpan {
				t.Fatal(s, sum, x, e)
			}
		}
	}
}

// P2.5
func TestMirrorAndShiftBack(t *testing.T) {
	for _, s := range append(small(), between(0, api.Forever), between(1<<49+1, 1<<49+4), between(api.Forever-3, api.Forever)) {
		for _, n := range append(far(), 3, 6, 7, 9, 14, -2, 1<<49, -1<<49, 1<<50+7, 1<<51-3) {
			if x, e := span.Mirror(s, n); e == api.OK {
				if y, f := span.Mirror(x, n); y != s || f != api.OK {
					t.Fatal(s, n, x, y, f)
				}
			}
			if x, e := span.Shift(s, n); e == api.OK {
				if y, f := span.Shift(x, -n); y != s || f != api.OK {
					t.Fatal(s, n, x, y, f)
				}
			}
		}
	}
}

// table is the relation as the document's table and the four cases ahead of it have it.
func table(a, b api.Span) int {
	switch {
	case a.To < b.From:
		return 1
	case a.To == b.From:
		return 2
	case a.From == b.To:
		return 12
	case a.From > b.To:
		return 13
	}
	rows := [3][3]int{{3, 4, 5}, {6, 7, 8}, {9, 10, 11}}
	place := func(a, b int) int {
		if a < b {
			return 0
		} else if a == b {
			return 1
		}
		return 2
	}
	return rows[place(a.From, b.From)][place(a.To, b.To)]
}

// P2.4
func TestRelate(t *testing.T) {
	tests := []struct {
		a, b api.Span
		n    int
	}{
		{between(0, 1), between(2, 3), 1},
		{between(2, 5), between(5, 8), 2},
		{between(2, 5), between(4, 8), 3},
		{between(2, 5), between(4, 5), 4},
		{between(2, 9), between(3, 4), 5},
		{between(2, 5), between(2, 9), 6},
		{between(2, 5), between(2, 5), 7},
		{between(2, 9), between(2, 5), 8},
		{between(3, 4), between(2, 9), 9},
		{between(4, 5), between(2, 5), 10},
		{between(4, 8), between(2, 5), 11},
		{between(5, 8), between(2, 5), 12},
		{between(2, 3), between(0, 1), 13},
		{between(0, api.Forever), between(0, api.Forever), 7},
		{between(0, 1), between(api.Forever-1, api.Forever), 1},
		{between(api.Forever-1, api.Forever), between(0, 1), 13},
		{between(0, api.Forever), between(0, 1), 8},
	}
	for _, x := range tests {
		if n, e := span.Relate(x.a, x.b); n != x.n || e != api.OK {
			t.Errorf("%v to %v: %d, error %d", x.a, x.b, n, e)
		}
	}
	seen := [14]bool{}
	for _, a := range small() {
		for _, b := range small() {
			n, e := span.Relate(a, b)
			if n != table(a, b) || e != api.OK {
				t.Fatal(a, b, n, e)
			}
			seen[n] = true
		}
	}
	for n := 1; n <= 13; n++ {
		if !seen[n] {
			t.Error("never", n)
		}
	}
	for _, s := range wrong() {
		for _, pair := range [][2]api.Span{{s, between(2, 5)}, {between(2, 5), s}, {s, s}} {
			if n, e := span.Relate(pair[0], pair[1]); n != 0 || e != api.ErrSpan {
				t.Fatal(pair, n, e)
			}
		}
	}
}

// P2.5
func TestRelateOfTheOther(t *testing.T) {
	mirrored := [14]int{0, 13, 12, 11, 8, 5, 10, 7, 4, 9, 6, 3, 2, 1}
	for _, a := range small() {
		for _, b := range small() {
			n, _ := span.Relate(a, b)
			if m, e := span.Relate(b, a); m != 14-n || e != api.OK {
				t.Fatal(a, b, n, m, e)
			}
			x, e := span.Mirror(a, 7)
			y, f := span.Mirror(b, 7)
			if e != api.OK || f != api.OK {
				t.Fatal(a, b, e, f)
			}
			if m, e := span.Relate(x, y); m != mirrored[n] || e != api.OK {
				t.Fatal(a, b, n, m, e)
			}
		}
	}
}
