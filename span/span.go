// Package span is layer 2: lifetimes, from a tick up to another one. See shared/doc/02-span.md.
package span

import (
	"cmp"

	"rescind/api"
)

func isTick(t int) bool { return 0 <= t && t <= api.Forever }

// numberOf is a span as a complex number, whose parts are its ends. Ticks are so small that both parts, and what Shift and Mirror make of them, are exact.
func numberOf(s api.Span) complex128 { return complex(float64(s.From), float64(s.To)) }

// both is the number that moves both ends by as much.
func both(d int) complex128 { return complex(float64(d), float64(d)) }

// exchanged is the number with the parts the other way round.
func exchanged(c complex128) complex128 { return complex(imag(c), real(c)) }

// spanOf is the span that a number stands for, if its parts are ticks.
func spanOf(c complex128) (api.Span, api.Errno) {
	return Make(int(real(c)), int(imag(c)))
}

// May: is it a span?
func May(s api.Span) bool { return isTick(s.From) && isTick(s.To) && s.From < s.To }

// Make is a span by its ends.
func Make(from, to int) (api.Span, api.Errno) {
	if !isTick(from) || !isTick(to) {
		return api.Span{}, api.ErrTime
	}
	if from >= to {
		return api.Span{}, api.ErrSpan
	}
	return api.Span{From: from, To: to}, api.OK
}

// Has: has it the tick?
func Has(s api.Span, t int) bool { return May(s) && s.From <= t && t < s.To }

// Length is how many ticks it has.
func Length(s api.Span) int {
	if !May(s) {
		return 0
	}
	return s.To - s.From
}

// Meet is what both have.
func Meet(a, b api.Span) (api.Span, bool) {
	if !May(a) || !May(b) {
		return api.Span{}, false
	}
	return unlessEmpty(max(a.From, b.From), min(a.To, b.To))
}

// Ahead is what is ahead of a tick.
func Ahead(s api.Span, t int) (api.Span, bool) {
	if !May(s) {
		return api.Span{}, false
	}
	return unlessEmpty(s.From, min(s.To, t))
}

// Rest is what is from a tick on.
func Rest(s api.Span, t int) (api.Span, bool) {
	if !May(s) {
		return api.Span{}, false
	}
	return unlessEmpty(max(s.From, t), s.To)
}

// unlessEmpty is the span between two ends, if there is a tick between them.
func unlessEmpty(from, to int) (api.Span, bool) {
	if from >= to {
		return api.Span{}, false
	}
	return api.Span{From: from, To: to}, true
}

// Shift is a span later.
func Shift(s api.Span, d int) (api.Span, api.Errno) {
	if !May(s) {
		return api.Span{}, api.ErrSpan
	}
	if d < -api.Forever || d > api.Forever {
		return api.Span{}, api.ErrTime
	}
	return spanOf(numberOf(s) + both(d))
}

// Mirror is a span the other way round.
func Mirror(s api.Span, sum int) (api.Span, api.Errno) {
	if !May(s) {
		return api.Span{}, api.ErrSpan
	}
	if sum < 0 || sum > 2*api.Forever {
		return api.Span{}, api.ErrTime
	}
	return spanOf(both(sum) - exchanged(numberOf(s)))
}

// Relate is how a stands to b.
func Relate(a, b api.Span) (int, api.Errno) {
	if !May(a) || !May(b) {
		return 0, api.ErrSpan
	}
	switch {
	case a.To < b.From:
		return 1, api.OK
	case a.To == b.From:
		return 2, api.OK
	case a.From == b.To:
		return 12, api.OK
	case a.From > b.To:
		return 13, api.OK
	}
	// they share ticks: the place in the table of three rows (which begins first) and three columns (which ends first), whose middle is 7
	return 7 + 3*cmp.Compare(a.From, b.From) + cmp.Compare(a.To, b.To), api.OK
}
