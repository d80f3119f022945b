package past

import (
	"cmp"
	"slices"
	"sort"
)

// ends is events in the order in which they end, so that those that the clock reaches next are ahead.
type ends struct {
	next []*event
}

// byEnd is the order of events. Of those that end together each has a place of its own, so that it is found without a look at the others.
func byEnd(a, b *event) int {
	return cmp.Or(cmp.Compare(a.life.To, b.life.To), bySerial(a, b))
}

// ahead is how many events are ahead of all of which a condition holds: from the first one on it has to hold of all.
func (e *ends) ahead(holds func(x *event) bool) int {
	return sort.Search(len(e.next), func(i int) bool { return holds(e.next[i]) })
}

// place is where an event stands, or belongs.
func (e *ends) place(x *event) int {
	return e.ahead(func(other *event) bool { return byEnd(other, x) >= 0 })
}

// enter puts an event into its place.
func (e *ends) enter(x *event) {
	e.next = slices.Insert(e.next, e.place(x), x)
}

// leave removes an event that is there, and ends when it did as it entered.
func (e *ends) leave(x *event) {
	i := e.place(x)
	e.next = slices.Delete(e.next, i, i+1)
}

// cut removes the events that end at a tick or ahead of it, and is these.
func (e *ends) cut(t int) []*event {
	count := e.ahead(func(x *event) bool { return x.life.To > t })
	over := slices.Clone(e.next[:count])
	e.next = slices.Delete(e.next, 0, count)
	return over
}
