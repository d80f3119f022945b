package eval

import (
	"rescind/api"
	"rescind/value"
)

// result is that of an operation: a number or a text, and nothing else.
type result interface {
	value() api.Value
	compare(b result) int
}

type number int

type text string

// resultOf is a value of a row.
func resultOf(v api.Value) result {
	if v.Kind == api.Text {
		return text(v.Text)
	}
	return number(v.Num)
}

func (n number) value() api.Value { return value.Num(int(n)) }

func (t text) value() api.Value {
	v, _ := value.Text(string(t)) // no text that is too long becomes a result
	return v
}

// compare stops if the other one is no number.
func (n number) compare(b result) int { return value.Compare(n.value(), numberOf(b).value()) }

// compare stops if the other one is no text.
func (t text) compare(b result) int { return value.Compare(t.value(), textOf(b).value()) }

// numberOf stops if a result is none.
func numberOf(a result) number {
	n, ok := a.(number)
	if !ok {
		panic(api.ErrKind)
	}
	return n
}

// textOf stops if a result is none.
func textOf(a result) text {
	t, ok := a.(text)
	if !ok {
		panic(api.ErrKind)
	}
	return t
}
