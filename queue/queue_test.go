package queue_test

import (
	"cmp"
	"math"
	"slices"
	"testing"

	"rescind/queue"
)

func byTens(a, b int) bool { return a/10 < b/10 }

func byLength(a, b string) bool { return len(a) < len(b) }

func never[T any](a, b T) bool { return false }

// all are things as they are popped one after another.
func all[T any](q *queue.Queue[T]) []T {
	var l []T
	for {
		x, ok := q.Pop()
		if !ok {
			return l
		}
		l = append(l, x)
	}
}

// record is things as they were put in; the first one is looked for from the words of the document.
type record[T comparable] struct {
	less func(a, b T) bool
	l    []T
}

func (r *record[T]) push(l ...T) { r.l = append(r.l, l...) }

// first is the place of the thing than which none is less; the first such one.
func (r *record[T]) first() int {
	return slices.IndexFunc(r.l, func(x T) bool {
		return !slices.ContainsFunc(r.l, func(y T) bool { return r.less(y, x) })
	})
}

func (r *record[T]) peek() (T, bool) {
	var none T
	if len(r.l) == 0 {
		return none, false
	}
	return r.l[r.first()], true
}

func (r *record[T]) pop() (T, bool) {
	x, ok := r.peek()
	if ok {
		i := r.first()
		r.l = slices.Delete(r.l, i, i+1)
	}
	return x, ok
}

func (r *record[T]) while(ok func(x T) bool) []T {
	var l []T
	for {
		x, found := r.peek()
		if !found || !ok(x) {
			return l
		}
		r.pop()
		l = append(l, x)
	}
}

// expect holds what a queue tells without a change against a record.
func expect[T comparable](t *testing.T, q *queue.Queue[T], r *record[T]) {
	t.Helper()
	if q.Len() != len(r.l) {
		t.Fatalf("%d things, and not %d", q.Len(), len(r.l))
	}
	x, ok := q.Peek()
	if want, wanted := r.peek(); x != want || ok != wanted {
		t.Fatalf("the first is %v, %v, and not %v, %v", x, ok, want, wanted)
	}
}

// expectAll holds what is left in a queue against a record, to the end.
func expectAll[T comparable](t *testing.T, q *queue.Queue[T], r *record[T]) {
	t.Helper()
	for range len(r.l) + 2 {
		expect(t, q, r)
		x, ok := q.Pop()
		if want, wanted := r.pop(); x != want || ok != wanted {
			t.Fatalf("popped %v, %v, and not %v, %v", x, ok, want, wanted)
		}
	}
	expect(t, q, r)
}

// P15.1
func TestNew(t *testing.T) {
	a, b := queue.New(byTens), queue.New(byTens)
	for range 2 {
		for _, q := range []*queue.Queue[int]{a, b} {
			if x, ok := q.Peek(); x != 0 || ok {
				t.Error("peek", x, ok)
			}
			if x, ok := q.Pop(); x != 0 || ok {
				t.Error("pop", x, ok)
			}
			if q.Len() != 0 {
				t.Error("len", q.Len())
			}
			if l := q.While(func(int) bool { return true }); len(l) != 0 {
				t.Error("while", l)
			}
		}
	}
	a.Push(1, 2)
	if b.Len() != 0 || queue.New(byTens).Len() != 0 || a.Len() != 2 {
		t.Error("what was put into one queue is in another one")
	}
}

// P15.1: the document's example, and others by hand.
func TestPush(t *testing.T) {
	tests := []struct{ l, want []int }{
		{nil, nil},
		{[]int{}, nil},
		{[]int{7}, []int{7}},
		{[]int{21, 15, 12, 20}, []int{15, 12, 21, 20}},
		{[]int{20, 12, 15, 21}, []int{12, 15, 20, 21}},
		{[]int{9, 8, 7, 6, 5, 4, 3, 2, 1, 0}, []int{9, 8, 7, 6, 5, 4, 3, 2, 1, 0}},
		{[]int{30, 20, 10, 0}, []int{0, 10, 20, 30}},
		{[]int{0, 10, 20, 30}, []int{0, 10, 20, 30}},
		{[]int{35, 25, 34, 24, 33, 23}, []int{25, 24, 23, 35, 34, 33}},
		{[]int{5, 5, 5}, []int{5, 5, 5}},
		{[]int{19, 5, 19, 5}, []int{5, 5, 19, 19}},
		{[]int{math.MaxInt64, math.MinInt64, 0, -10}, []int{math.MinInt64, -10, 0, math.MaxInt64}},
	}
	for _, test := range tests {
		q := queue.New(byTens)
		q.Push(test.l...)
		if got := all(q); !slices.Equal(got, test.want) {
			t.Errorf("%v at once: %v, and not %v", test.l, got, test.want)
		}
		for _, x := range test.l {
			q.Push(x)
			q.Push()
		}
		if got := all(q); !slices.Equal(got, test.want) {
			t.Errorf("%v one by one: %v, and not %v", test.l, got, test.want)
		}
	}
}

// P15.1
func TestPopAndPeek(t *testing.T) {
	q := queue.New(byTens)
	q.Push(21, 15)
	q.Push(12, 20)
	for i, want := range []int{15, 12, 21, 20} {
		for range 2 {
			if x, ok := q.Peek(); x != want || !ok || q.Len() != 4-i {
				t.Errorf("peek %d: %d, %v, and %d in all", i, x, ok, q.Len())
			}
		}
		if x, ok := q.Pop(); x != want || !ok || q.Len() != 3-i {
			t.Errorf("pop %d: %d, %v, and %d in all", i, x, ok, q.Len())
		}
	}
	for range 2 {
		if x, ok := q.Pop(); x != 0 || ok {
			t.Error("pop of an empty queue:", x, ok)
		}
		if x, ok := q.Peek(); x != 0 || ok {
			t.Error("peek of an empty queue:", x, ok)
		}
	}
	q.Push(4)
	if x, ok := q.Pop(); x != 4 || !ok {
		t.Error("pop of what was put in behind the last one:", x, ok)
	}
}

// P15.1 and P15.3: what was popped and pushed again is behind what is equivalent.
func TestPushAgain(t *testing.T) {
	q := queue.New(never[int])
	q.Push(1, 2, 3)
	for range 10 {
		x, _ := q.Pop()
		q.Push(x)
	}
	if got := all(q); !slices.Equal(got, []int{2, 3, 1}) {
		t.Error(got)
	}
	q.Push(3)
	q.Pop()
	q.Push(2, 1)
	if got := all(q); !slices.Equal(got, []int{2, 1}) {
		t.Error(got)
	}
}

// P15.1 and P15.2
func TestNil(t *testing.T) {
	var q *queue.Queue[string]
	q.Push()
	q.Push("a", "b")
	q.Push(nil...)
	if x, ok := q.Pop(); x != "" || ok {
		t.Error("pop", x, ok)
	}
	if x, ok := q.Peek(); x != "" || ok {
		t.Error("peek", x, ok)
	}
	if q.Len() != 0 {
		t.Error("len", q.Len())
	}
	asked := 0
	if l := q.While(func(string) bool { asked++; return true }); len(l) != 0 || asked != 0 {
		t.Error("while", l, asked)
	}
}

// P15.2: the document's example, and others by hand.
func TestWhile(t *testing.T) {
	texts := []string{"ccc", "a", "bb", "b", "dddd"}
	tests := []struct {
		most       int
		want, left []string
	}{
		{2, []string{"a", "b", "bb"}, []string{"ccc", "dddd"}},
		{1, []string{"a", "b"}, []string{"bb", "ccc", "dddd"}},
		{0, nil, []string{"a", "b", "bb", "ccc", "dddd"}},
		{3, []string{"a", "b", "bb", "ccc"}, []string{"dddd"}},
		{4, []string{"a", "b", "bb", "ccc", "dddd"}, nil},
	}
	for _, test := range tests {
		q := queue.New(byLength)
		q.Push(texts...)
		for _, want := range [][]string{test.want, nil} {
			if got := q.While(func(x string) bool { return len(x) <= test.most }); !slices.Equal(got, want) {
				t.Errorf("up to %d: %v, and not %v", test.most, got, want)
			}
		}
		if q.Len() != len(test.left) {
			t.Errorf("up to %d: %d are left, and not %d", test.most, q.Len(), len(test.left))
		}
		if got := all(q); !slices.Equal(got, test.left) {
			t.Errorf("up to %d: %v are left, and not %v", test.most, got, test.left)
		}
	}
}

// P15.2: only the first thing is asked about; it is removed when the answer is true, and not ahead of that.
func TestWhileAsks(t *testing.T) {
	q := queue.New(byTens)
	q.Push(21, 15, 31, 12, 20, 32)
	var asked, held []int
	got := q.While(func(x int) bool {
		asked = append(asked, x)
		held = append(held, q.Len())
		return x != 21
	})
	if !slices.Equal(got, []int{15, 12}) || !slices.Equal(asked, []int{15, 12, 21}) || !slices.Equal(held, []int{6, 5, 4}) {
		t.Error(got, asked, held)
	}
	odd := q.While(func(x int) bool { return x%2 == 1 })
	if rest := all(q); !slices.Equal(odd, []int{21}) || !slices.Equal(rest, []int{20, 31, 32}) {
		t.Error(odd, rest) // 31 is odd, but behind 20
	}
	asked = nil
	if l := q.While(func(x int) bool { asked = append(asked, x); return true }); len(l) != 0 || len(asked) != 0 {
		t.Error(l, asked)
	}
}

// kinds are how many things a step of a short sequence may be.
const kinds = 5

// play tells a queue and a record the steps of a code, each of whose digits is a thing to push, or a pop.
func play(t *testing.T, code, steps int) {
	t.Helper()
	things := []int{10, 11, 20, 0}
	q, r := queue.New(byTens), &record[int]{less: byTens}
	for range steps {
		if code%kinds < len(things) {
			q.Push(things[code%kinds])
			r.push(things[code%kinds])
		} else {
			x, ok := q.Pop()
			if want, wanted := r.pop(); x != want || ok != wanted {
				t.Fatalf("%d: popped %d, %v, and not %d, %v", code, x, ok, want, wanted)
			}
		}
		expect(t, q, r)
		code /= kinds
	}
	expectAll(t, q, r)
}

// P15.1 and P15.3: all short sequences.
func TestShort(t *testing.T) {
	const steps = 6
	codes := 1
	for range steps {
		codes *= kinds
	}
	for code := range codes {
		play(t, code, steps)
	}
}

// dice are numbers without a pattern, the same each time.
type dice uint64

func (d *dice) roll(n int) int {
	*d = *d*6364136223846793005 + 1442695040888963407
	return int(uint64(*d)>>33) % n
}

// ticket is a thing whose order is that of one field.
type ticket struct{ rank, number int }

func byRank(a, b ticket) bool { return a.rank < b.rank }

// P15.1 to P15.3: long sequences.
func TestLong(t *testing.T) {
	d := dice(1)
	for range 60 {
		q, r := queue.New(byRank), &record[ticket]{less: byRank}
		ranks, number := 1+d.roll(12), 0
		for range 120 {
			var l []ticket
			switch most := d.roll(ranks + 1); d.roll(5) {
			case 0, 1:
				for range d.roll(8) {
					l = append(l, ticket{d.roll(ranks), number})
					number++
				}
				q.Push(l...)
				r.push(l...)
			case 2:
				ok := func(x ticket) bool { return x.rank < most }
				if got, want := q.While(ok), r.while(ok); !slices.Equal(got, want) {
					t.Fatalf("while: %v, and not %v", got, want)
				}
			default:
				x, ok := q.Pop()
				if want, wanted := r.pop(); x != want || ok != wanted {
					t.Fatalf("popped %v, %v, and not %v, %v", x, ok, want, wanted)
				}
			}
			expect(t, q, r)
		}
		expectAll(t, q, r)
	}
}

// P15.3: many things come out in order, those that are equivalent as they came in, and each once.
func TestMany(t *testing.T) {
	d := dice(2)
	for _, count := range []int{1, 2, 3, 100, 1023, 1024, 1025, 20000} {
		var l []ticket
		q := queue.New(byRank)
		for i := range count {
			l = append(l, ticket{d.roll(1 + count/3), i})
		}
		q.Push(l[:count/2]...)
		q.Push(l[count/2:]...)
		slices.SortStableFunc(l, func(a, b ticket) int { return cmp.Compare(a.rank, b.rank) })
		if got := all(q); !slices.Equal(got, l) {
			t.Errorf("%d things are out of order", count)
		}
		q.Push(l...)
		if got := q.While(func(ticket) bool { return true }); !slices.Equal(got, l) || q.Len() != 0 {
			t.Errorf("%d things are out of order", count)
		}
	}
}

// P15.1: things of any type.
func TestTypes(t *testing.T) {
	a, b := &ticket{rank: 2}, &ticket{rank: 1}
	pointers := queue.New(func(a, b *ticket) bool { return a.rank < b.rank })
	pointers.Push(a, b, a)
	if got := all(pointers); !slices.Equal(got, []*ticket{b, a, a}) {
		t.Error(got)
	}
	if x, ok := pointers.Pop(); x != nil || ok {
		t.Error(x, ok)
	}
	lists := queue.New(func(a, b []int) bool { return len(a) < len(b) })
	lists.Push([]int{1, 2}, nil, []int{3})
	if got := all(lists); len(got) != 3 || len(got[0]) != 0 || !slices.Equal(got[1], []int{3}) || !slices.Equal(got[2], []int{1, 2}) {
		t.Error(got)
	}
	anything := queue.New(func(a, b any) bool { return a == nil && b != nil })
	anything.Push(1, "a", nil, 'b')
	if got := all(anything); !slices.Equal(got, []any{nil, 1, "a", 'b'}) {
		t.Error(got)
	}
	nothing := queue.New(never[struct{}])
	nothing.Push(struct{}{}, struct{}{})
	if got := all(nothing); len(got) != 2 {
		t.Error(got)
	}
}

// P15.1: the order is that of the function that was passed, also if it is no order by size.
func TestOrders(t *testing.T) {
	down := queue.New(func(a, b int) bool { return a > b })
	down.Push(1, 3, 2)
	if got := all(down); !slices.Equal(got, []int{3, 2, 1}) {
		t.Error(got)
	}
	odd := queue.New(func(a, b int) bool { return a%2 > b%2 })
	odd.Push(2, 3, 4, 5, 6, 7)
	if got := all(odd); !slices.Equal(got, []int{3, 5, 7, 2, 4, 6}) {
		t.Error(got)
	}
}

// P1: functions that are no order let the calls return.
func TestNoOrder(t *testing.T) {
	n := 0
	for _, less := range []func(a, b int) bool{
		func(a, b int) bool { return true },
		func(a, b int) bool { return a != b },
		func(a, b int) bool { return (b-a+3)%3 == 1 },
		func(a, b int) bool { n++; return n%3 == 0 },
	} {
		q := queue.New(less)
		q.Push(0, 1, 2, 1, 0, 2, 0)
		for range 10 {
			q.Pop()
			q.Push(1)
			q.Peek()
		}
		q.While(func(int) bool { return true })
		if q.Len() != 0 {
			t.Error(q.Len())
		}
	}
}

// P3: what is handed in is neither changed nor kept, and what is told is new.
func TestMemory(t *testing.T) {
	room := []int{30, 20, 10, 7, 8, 9}
	l := room[:3]
	q := queue.New(byTens)
	q.Push(l...)
	q.Push(5)
	if !slices.Equal(room, []int{30, 20, 10, 7, 8, 9}) {
		t.Fatal("what was handed in is changed:", room)
	}
	for i := range room {
		room[i] = -1
	}
	got := q.While(func(x int) bool { return x < 20 })
	if !slices.Equal(got, []int{5, 10}) {
		t.Fatal(got)
	}
	got = got[:cap(got)]
	for i := range got {
		got[i] = -1
	}
	if rest := all(q); !slices.Equal(rest, []int{20, 30}) {
		t.Fatal(rest)
	}
}

// P6: queues have nothing in common.
func TestApart(t *testing.T) {
	up, down := queue.New(cmp.Less[int]), queue.New(func(a, b int) bool { return a > b })
	for i := range 10 {
		up.Push(i)
		down.Push(i)
	}
	for i := range 10 {
		x, _ := up.Pop()
		y, _ := down.Pop()
		if x != i || y != 9-i {
			t.Error(i, x, y)
		}
	}
}
