package multi_test

import (
	"cmp"
	"iter"
	"math"
	"slices"
	"strings"
	"testing"

	"rescind/api"
	"rescind/multi"
)

const (
	most   = math.MaxInt64
	least  = math.MinInt64
	maxNet = 1 << 20
)

func byTens(a, b int) int { return a/10 - b/10 }

// entry is a thing, and how many copies there are of it.
type entry[K any] struct {
	k K
	n int
}

func entries[K any](all iter.Seq2[K, int]) []entry[K] {
	var l []entry[K]
	for k, n := range all {
		l = append(l, entry[K]{k, n})
	}
	return l
}

// record is what was put, in the order in which things came; what a multiset must answer is looked for from the words of the document.
type record[K comparable] struct {
	compare func(a, b K) int
	l       []entry[K]
}

func (r *record[K]) find(k K) int {
	return slices.IndexFunc(r.l, func(x entry[K]) bool { return r.compare(x.k, k) == 0 })
}

func (r *record[K]) of(k K) int {
	if i := r.find(k); i >= 0 {
		return r.l[i].n
	}
	return 0
}

func (r *record[K]) count() int {
	n := 0
	for _, x := range r.l {
		n += x.n
	}
	return n
}

func (r *record[K]) put(k K, n int) api.Errno {
	switch {
	case n > maxNet || n < -maxNet:
		return api.ErrArg
	case r.of(k)+n < 0:
		return api.ErrBelow
	case r.count()+n > maxNet:
		return api.ErrFull
	}
	if r.find(k) < 0 {
		r.l = append(r.l, entry[K]{k: k})
	}
	r.l[r.find(k)].n += n
	r.l = slices.DeleteFunc(r.l, func(x entry[K]) bool { return x.n == 0 })
	return api.OK
}

func (r *record[K]) all() []entry[K] {
	return slices.SortedFunc(slices.Values(r.l), func(a, b entry[K]) int { return r.compare(a.k, b.k) })
}

// nth is the thing of the copy before which there are so many.
func (r *record[K]) nth(i int) (K, bool) {
	for _, x := range r.all() {
		if 0 <= i && i < x.n {
			return x.k, true
		}
		i -= x.n
	}
	var none K
	return none, false
}

// expect holds everything that a multiset tells against a record. Of the copies it asks for those at which the thing changes, and for some that are not there.
func expect[K comparable](t *testing.T, m *multi.Multi[K], r *record[K], things ...K) {
	t.Helper()
	if m.Count() != r.count() {
		t.Fatalf("%d copies, and not %d", m.Count(), r.count())
	}
	if got, want := entries(m.All()), r.all(); !slices.Equal(got, want) {
		t.Fatalf("all: %v, and not %v", got, want)
	}
	for _, k := range things {
		if got, want := m.Of(k), r.of(k); got != want {
			t.Fatalf("%d copies of %v, and not %d", got, k, want)
		}
	}
	places, ahead := []int{least, -1, 0, maxNet, most}, 0
	for _, x := range r.all() {
		ahead += x.n
		places = append(places, ahead-x.n/2, ahead-1, ahead)
	}
	for _, i := range places {
		expectThing(t, "nth", func() (K, bool) { return m.Nth(i) }, func() (K, bool) { return r.nth(i) })
	}
	expectThing(t, "least", m.Least, func() (K, bool) { return r.nth(0) })
	expectThing(t, "most", m.Most, func() (K, bool) { return r.nth(r.count() - 1) })
}

func expectThing[K comparable](t *testing.T, what string, got, want func() (K, bool)) {
	t.Helper()
	k, ok := got()
	if wanted, there := want(); k != wanted || ok != there {
		t.Fatalf("%s: %v, %v, and not %v, %v", what, k, ok, wanted, there)
	}
}

// put puts into a multiset and a record, which must answer the same.
func put[K comparable](t *testing.T, m *multi.Multi[K], r *record[K], k K, n int) {
	t.Helper()
	if got, want := m.Put(k, n), r.put(k, n); got != want {
		t.Fatalf("put %v %d times: error %d, and not %d", k, n, got, want)
	}
}

// P24.1
func TestNew(t *testing.T) {
	a, b := multi.New(byTens), multi.New(byTens)
	for range 2 {
		for _, m := range []*multi.Multi[int]{a, b} {
			expect(t, m, &record[int]{compare: byTens}, 0, 1)
		}
	}
	a.Put(1, 2)
	if b.Count() != 0 || multi.New(byTens).Count() != 0 || b.Of(1) != 0 || a.Count() != 2 {
		t.Error("what was put into one multiset is in another one")
	}
}

// P24.1 and P24.2: the document's examples.
func TestExamples(t *testing.T) {
	texts := multi.New(strings.Compare)
	for _, s := range []string{"b", "a", "b", "c"} {
		if e := texts.Put(s, 1); e != api.OK {
			t.Error(s, e)
		}
	}
	if s, ok := texts.Nth(2); s != "b" || !ok {
		t.Error("nth", s, ok)
	}
	if e := texts.Put("b", -3); e != api.ErrBelow {
		t.Error("three of two:", e)
	}
	numbers := multi.New(cmp.Compare[int])
	if numbers.Put(5, 2) != api.OK || numbers.Put(3, 1) != api.OK || numbers.Count() != 3 {
		t.Error("count", numbers.Count())
	}
	if n, ok := numbers.Least(); n != 3 || !ok {
		t.Error("least", n, ok)
	}
	if n, ok := numbers.Nth(1); n != 5 || !ok {
		t.Error("nth", n, ok)
	}
	if n, ok := numbers.Most(); n != 5 || !ok {
		t.Error("most", n, ok)
	}
}

// P24.1 and P24.2: each error at the number at which it begins to apply; nothing changes with it.
func TestErrors(t *testing.T) {
	type step struct {
		k string
		n int
		e api.Errno
	}
	tests := [][]step{
		{{"a", maxNet + 1, api.ErrArg}, {"a", maxNet, api.OK}},
		{{"a", -maxNet - 1, api.ErrArg}, {"a", -maxNet, api.ErrBelow}},
		{{"a", most, api.ErrArg}, {"a", least, api.ErrArg}},
		{{"a", -1, api.ErrBelow}, {"a", 0, api.OK}, {"a", -1, api.ErrBelow}, {"a", 1, api.OK}, {"a", -1, api.OK}, {"a", -1, api.ErrBelow}},
		{{"b", 2, api.OK}, {"b", -3, api.ErrBelow}, {"a", -1, api.ErrBelow}, {"c", -1, api.ErrBelow}, {"b", -2, api.OK}, {"b", -1, api.ErrBelow}},
		{{"a", maxNet, api.OK}, {"a", 1, api.ErrFull}, {"b", 1, api.ErrFull}, {"b", 0, api.OK}, {"b", maxNet, api.ErrFull}, {"b", maxNet + 1, api.ErrArg}, {"b", -1, api.ErrBelow}, {"a", -maxNet, api.OK}, {"b", maxNet, api.OK}},
		{{"a", maxNet - 1, api.OK}, {"b", 2, api.ErrFull}, {"b", 1, api.OK}, {"c", 1, api.ErrFull}, {"a", -1, api.OK}, {"c", 2, api.ErrFull}, {"c", 1, api.OK}, {"c", 1, api.ErrFull}},
		{{"a", maxNet / 2, api.OK}, {"a", maxNet / 2, api.OK}, {"a", 1, api.ErrFull}, {"a", -maxNet - 1, api.ErrArg}, {"a", -maxNet, api.OK}, {"a", -1, api.ErrBelow}},
	}
	for i, test := range tests {
		m, r := multi.New(strings.Compare), &record[string]{compare: strings.Compare}
		for j, s := range test {
			if e := m.Put(s.k, s.n); e != s.e {
				t.Fatalf("%d, %d: put %s %d times: error %d, and not %d", i, j, s.k, s.n, e, s.e)
			}
			if s.e == api.OK {
				r.put(s.k, s.n)
			}
			expect(t, m, r, "a", "b", "c", "d")
		}
	}
}

// P24.1: copies are represented by the one that was put first among those that have existed since then without interruption.
func TestFirst(t *testing.T) {
	tests := []struct {
		l, want []entry[int]
	}{
		{[]entry[int]{{12, 1}, {15, 1}}, []entry[int]{{12, 2}}},
		{[]entry[int]{{15, 1}, {12, 1}}, []entry[int]{{15, 2}}},
		{[]entry[int]{{15, 1}, {12, 1}, {15, -1}}, []entry[int]{{15, 1}}},
		{[]entry[int]{{15, 1}, {12, -1}, {12, 1}}, []entry[int]{{12, 1}}},
		{[]entry[int]{{15, 3}, {12, -2}, {12, 1}, {19, -1}}, []entry[int]{{15, 1}}},
		{[]entry[int]{{15, 3}, {12, -3}, {19, 1}, {12, 1}}, []entry[int]{{19, 2}}},
		{[]entry[int]{{15, 0}, {12, 1}}, []entry[int]{{12, 1}}},
		{[]entry[int]{{15, 1}, {12, 0}}, []entry[int]{{15, 1}}},
		{[]entry[int]{{15, 0}}, nil},
		{[]entry[int]{{25, 1}, {15, 1}, {12, 1}, {21, 1}, {5, 1}, {1, 2}}, []entry[int]{{5, 3}, {15, 2}, {25, 2}}},
		{[]entry[int]{{25, 1}, {15, 1}, {18, -1}, {5, 1}, {18, 1}}, []entry[int]{{5, 1}, {18, 1}, {25, 1}}},
	}
	for _, test := range tests {
		m := multi.New(byTens)
		for _, x := range test.l {
			if e := m.Put(x.k, x.n); e != api.OK {
				t.Errorf("%v: error %d", test.l, e)
			}
		}
		if got := entries(m.All()); !slices.Equal(got, test.want) {
			t.Errorf("%v: %v, and not %v", test.l, got, test.want)
		}
	}
}

// P24.1: what is refused does not represent what comes then.
func TestRefusedIsNotFirst(t *testing.T) {
	m := multi.New(byTens)
	for _, n := range []int{-1, maxNet + 1, -maxNet - 1} {
		if m.Put(15, n) == api.OK {
			t.Error(n)
		}
	}
	m.Put(12, maxNet)
	if m.Put(15, 1) != api.ErrFull || m.Put(25, 1) != api.ErrFull {
		t.Error("there is no room")
	}
	if got := entries(m.All()); !slices.Equal(got, []entry[int]{{12, maxNet}}) {
		t.Error(got)
	}
}

// P24.2: by hand.
func TestNth(t *testing.T) {
	m := multi.New(strings.Compare)
	for _, x := range []entry[string]{{"c", 1}, {"a", 1}, {"b", 2}, {"d", 3}} {
		m.Put(x.k, x.n)
	}
	for i, want := range []string{"a", "b", "b", "c", "d", "d", "d"} {
		if s, ok := m.Nth(i); s != want || !ok {
			t.Errorf("%d: %s, %v, and not %s", i, s, ok, want)
		}
	}
	for _, i := range []int{-1, -2, 7, 8, maxNet, most, least} {
		if s, ok := m.Nth(i); s != "" || ok {
			t.Errorf("%d: %s, %v", i, s, ok)
		}
	}
	m.Put("d", -3)
	if s, ok := m.Nth(4); s != "" || ok {
		t.Error(s, ok)
	}
	if s, ok := m.Most(); s != "c" || !ok {
		t.Error(s, ok)
	}
	m.Put("a", -1)
	if s, ok := m.Least(); s != "b" || !ok {
		t.Error(s, ok)
	}
}

// P24.2: an iterator starts from the beginning each time, and yields nothing more once the loop is left.
func TestAll(t *testing.T) {
	m := multi.New(cmp.Compare[int])
	want := []entry[int]{{-5, 2}, {0, 1}, {3, 4}, {9, 1}}
	for _, i := range []int{2, 0, 3, 1} {
		m.Put(want[i].k, want[i].n)
	}
	all := m.All()
	for range 3 {
		if got := entries(all); !slices.Equal(got, want) {
			t.Errorf("%v, and not %v", got, want)
		}
		for end := 1; end <= len(want); end++ {
			var got []entry[int]
			all(func(k, n int) bool {
				got = append(got, entry[int]{k, n})
				return len(got) < end
			})
			if !slices.Equal(got, want[:end]) {
				t.Errorf("left at %d: %v", end, got)
			}
		}
	}
	again := 0
	for range all {
		again += len(entries(all)) // one loop in another one
	}
	if again != len(want)*len(want) {
		t.Error("in a loop:", again)
	}
}

// P24.2: an iterator tells what there was when it was asked for, so that in its loop things may be taken out.
func TestAllMeanwhile(t *testing.T) {
	m := multi.New(cmp.Compare[int])
	for k := range 20 {
		m.Put(k, 1+k%3)
	}
	all, want := m.All(), entries(m.All())
	var got []entry[int]
	for k, n := range all {
		got = append(got, entry[int]{k, n})
		if e := m.Put(k, -n); e != api.OK {
			t.Error(k, n, e)
		}
		m.Put(k+100, 1)
	}
	if !slices.Equal(got, want) || len(want) != 20 {
		t.Errorf("%v, and not %v", got, want)
	}
	if got := entries(all); !slices.Equal(got, want) {
		t.Errorf("afterwards %v, and not %v", got, want)
	}
	if s, ok := m.Least(); s != 100 || !ok || m.Count() != 20 {
		t.Error(s, ok, m.Count())
	}
}

// P24.1 and P24.2
func TestNil(t *testing.T) {
	var m *multi.Multi[string]
	for _, n := range []int{0, 1, -1, maxNet + 1, most, least} {
		if e := m.Put("a", n); e != api.ErrNil {
			t.Error("put", n, e)
		}
	}
	if m.Count() != 0 || m.Of("a") != 0 || m.Of("") != 0 {
		t.Error("count", m.Count(), m.Of("a"))
	}
	for _, i := range []int{0, -1, 1, most, least} {
		if s, ok := m.Nth(i); s != "" || ok {
			t.Error("nth", i, s, ok)
		}
	}
	if s, ok := m.Least(); s != "" || ok {
		t.Error("least", s, ok)
	}
	if s, ok := m.Most(); s != "" || ok {
		t.Error("most", s, ok)
	}
	for range 2 {
		for s, n := range m.All() {
			t.Error("all", s, n)
		}
	}
}

// P24.1 to P24.3: all short sequences of what is put in and taken out.
func TestShort(t *testing.T) {
	const steps = 5
	puts := []entry[int]{{10, 1}, {11, 2}, {20, 1}, {0, 1}, {12, -1}, {21, -1}, {1, -2}}
	codes := 1
	for range steps {
		codes *= len(puts)
	}
	for code := range codes {
		m, r := multi.New(byTens), &record[int]{compare: byTens}
		for range steps {
			x := puts[code%len(puts)]
			put(t, m, r, x.k, x.n)
			code /= len(puts)
		}
		expect(t, m, r, 5, 15, 25, 35, -15)
	}
}

// dice are numbers without a pattern, the same each time.
type dice uint64

func (d *dice) roll(n int) int {
	*d = *d*6364136223846793005 + 1442695040888963407
	return int(uint64(*d)>>33) % n
}

// ticket is a thing whose order is that of one field.
type ticket struct{ rank, number int }

func byRank(a, b ticket) int { return cmp.Compare(a.rank, b.rank) }

// P24.1 to P24.3: long sequences.
func TestLong(t *testing.T) {
	d := dice(1)
	for round := range 60 {
		m, r := multi.New(byRank), &record[ticket]{compare: byRank}
		ranks, size := 1+d.roll(40), 3
		if round%3 == 0 {
			size = maxNet / 4 // so that there is no room now and then
		}
		for number := range 150 {
			k := ticket{d.roll(ranks), number}
			switch d.roll(8) {
			case 0:
				put(t, m, r, k, -m.Of(k))
			case 1:
				put(t, m, r, k, maxNet-m.Count())
			case 2:
				put(t, m, r, k, d.roll(3*maxNet)-3*maxNet/2)
			case 3, 4:
				put(t, m, r, k, -d.roll(size))
			default:
				put(t, m, r, k, d.roll(size))
			}
			expect(t, m, r, k, ticket{rank: d.roll(ranks)}, ticket{rank: -1}, ticket{rank: ranks})
		}
	}
}

// P24.3: what was put can be removed again, in whichever order.
func TestRemoveAgain(t *testing.T) {
	d := dice(3)
	for _, count := range []int{1, 2, 3, 10, 100, 3000} {
		m := multi.New(cmp.Compare[int])
		m.Put(-1, 5)
		var l []entry[int]
		for range count {
			l = append(l, entry[int]{d.roll(1 + count/2), 1 + d.roll(4)})
		}
		for _, x := range l {
			if e := m.Put(x.k, x.n); e != api.OK {
				t.Fatal(x, e)
			}
		}
		slices.SortFunc(l, func(a, b entry[int]) int { return cmp.Compare(a.n, b.n) })
		for _, x := range l {
			if e := m.Put(x.k, -x.n); e != api.OK {
				t.Fatal(x, e)
			}
		}
		if got := entries(m.All()); !slices.Equal(got, []entry[int]{{-1, 5}}) || m.Count() != 5 {
			t.Errorf("%d things: %v is left", count, got)
		}
	}
}

// P24.3: the order in which things are put does not matter.
func TestOrderOfPuts(t *testing.T) {
	d := dice(4)
	l := []entry[int]{{4, 1}, {1, 2}, {3, 1}, {1, 1}, {9, 7}, {0, 1}, {4, 2}, {-3, 1}}
	want := []entry[int]{{-3, 1}, {0, 1}, {1, 3}, {3, 1}, {4, 3}, {9, 7}}
	for range 500 {
		for i := range l {
			j := i + d.roll(len(l)-i)
			l[i], l[j] = l[j], l[i]
		}
		m := multi.New(cmp.Compare[int])
		for _, x := range l {
			m.Put(x.k, x.n)
		}
		if got := entries(m.All()); !slices.Equal(got, want) || m.Count() != 16 {
			t.Fatalf("%v: %v, and not %v", l, got, want)
		}
	}
}

// P24.2 and P24.3: many things, each copy of them.
func TestMany(t *testing.T) {
	d := dice(5)
	m := multi.New(cmp.Compare[int])
	var l []int
	for range 3000 {
		k := d.roll(2000)
		if e := m.Put(k, 1); e != api.OK {
			t.Fatal(k, e)
		}
		l = append(l, k)
	}
	slices.Sort(l)
	for i, want := range l {
		if k, ok := m.Nth(i); k != want || !ok {
			t.Fatalf("%d: %d, %v, and not %d", i, k, ok, want)
		}
	}
	copies := 0
	for k, n := range m.All() {
		if m.Of(k) != n || l[copies] != k {
			t.Fatal(k, n)
		}
		copies += n
	}
	if k, ok := m.Nth(copies); copies != len(l) || k != 0 || ok {
		t.Error(copies, k, ok)
	}
}

// P24.1: things of any type.
func TestTypes(t *testing.T) {
	a, b, c := &ticket{rank: 2}, &ticket{rank: 1}, &ticket{rank: 2}
	pointers := multi.New(func(a, b *ticket) int { return byRank(*a, *b) })
	for _, k := range []*ticket{a, b, c} {
		pointers.Put(k, 1)
	}
	if got := entries(pointers.All()); !slices.Equal(got, []entry[*ticket]{{b, 1}, {a, 2}}) {
		t.Error(got)
	}
	if k, ok := pointers.Nth(3); k != nil || ok {
		t.Error(k, ok)
	}
	rows := multi.New(slices.Compare[[]int])
	rows.Put([]int{2, 1}, 1)
	rows.Put([]int{2}, 1)
	rows.Put(nil, 3)
	rows.Put([]int{}, 1)
	if k, ok := rows.Most(); !slices.Equal(k, []int{2, 1}) || !ok || rows.Of([]int{}) != 4 || rows.Of([]int{1}) != 0 {
		t.Error(k, ok)
	}
	nothing := multi.New(func(a, b struct{}) int { return 0 })
	nothing.Put(struct{}{}, 2)
	nothing.Put(struct{}{}, 1)
	if got := entries(nothing.All()); len(got) != 1 || got[0].n != 3 {
		t.Error(got)
	}
}

// P24.1: the order is that of the function that was passed; of what it returns the sign alone counts.
func TestOrders(t *testing.T) {
	for _, test := range []struct {
		compare func(a, b int) int
		want    []entry[int]
	}{
		{func(a, b int) int { return cmp.Compare(b, a) }, []entry[int]{{4, 1}, {3, 1}, {2, 1}, {1, 1}}},
		{func(a, b int) int { return (a - b) * (1 << 40) }, []entry[int]{{1, 1}, {2, 1}, {3, 1}, {4, 1}}},
		{func(a, b int) int { return []int{least, 0, most}[1+cmp.Compare(a, b)] }, []entry[int]{{1, 1}, {2, 1}, {3, 1}, {4, 1}}},
		{func(a, b int) int { return cmp.Compare(b%2, a%2) }, []entry[int]{{3, 2}, {2, 2}}},
		{func(a, b int) int { return 0 }, []entry[int]{{3, 4}}},
	} {
		m := multi.New(test.compare)
		for _, k := range []int{3, 1, 2, 4} {
			m.Put(k, 1)
		}
		if got := entries(m.All()); !slices.Equal(got, test.want) {
			t.Errorf("%v, and not %v", got, test.want)
		}
	}
}

// P1: functions that are no order let the calls return.
func TestNoOrder(t *testing.T) {
	turn := 0
	for i, compare := range []func(a, b int) int{
		func(a, b int) int { return 1 },
		func(a, b int) int { return -1 },
		func(a, b int) int { return (b-a+3)%3 - 1 },
		func(a, b int) int { turn++; return turn%3 - 1 },
	} {
		m, count := multi.New(compare), 0
		for j := range 200 {
			n := j%7 - 3
			if m.Put(j%5, n) == api.OK {
				count += n
			}
			m.Of(j % 5)
			m.Least()
			m.Most()
		}
		copies := 0
		for _, n := range m.All() {
			copies += n
		}
		_, ok := m.Nth(count - 1)
		if m.Count() != count || copies != count || ok != (count > 0) {
			t.Errorf("%d: %d copies, %d in all, and not %d", i, m.Count(), copies, count)
		}
	}
}
