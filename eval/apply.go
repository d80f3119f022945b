package eval

import (
	"rescind/api"
	"rescind/num"
)

// apply is the result of an operation, of as many operands as it takes.
func apply(o api.Op, operands []result, r api.Row) result {
	switch len(operands) {
	case 0:
		return ofNone(o, r)
	case 1:
		return ofOne(o.Code, operands[0])
	}
	return ofTwo(o.Code, operands[0], operands[1])
}

func ofNone(o api.Op, r api.Row) result {
	switch o.Code {
	case api.Num:
		return number(o.Num)
	case api.Str:
		return text(o.Text)
	}
	if o.Num >= len(r) {
		panic(api.ErrRange)
	}
	return resultOf(r[o.Num])
}

func ofOne(c api.Code, a result) result {
	switch c {
	case api.Len:
		return number(len(textOf(a)))
	case api.Not:
		return truth(numberOf(a) == 0)
	}
	return exact(num.Neg(int(numberOf(a))))
}

func ofTwo(c api.Code, a, b result) result {
	switch c {
	case api.Cat:
		return cat(textOf(a), textOf(b))
	case api.Eq:
		return truth(a.compare(b) == 0)
	case api.Ne:
		return truth(a.compare(b) != 0)
	case api.Lt:
		return truth(a.compare(b) < 0)
	case api.Le:
		return truth(a.compare(b) <= 0)
	case api.Gt:
		return truth(a.compare(b) > 0)
	case api.Ge:
		return truth(a.compare(b) >= 0)
	}
	return ofNumbers(c, int(numberOf(a)), int(numberOf(b)))
}

// ofNumbers has both operands as numbers: And and Or too stop if the second one is none, whatever the first one is.
func ofNumbers(c api.Code, a, b int) result {
	switch c {
	case api.Add:
		return exact(num.Add(a, b))
	case api.Sub:
		return exact(num.Sub(a, b))
	case api.Mul:
		return exact(num.Mul(a, b))
	case api.Quo:
		return exact(num.Quo(a, b))
	case api.Rem:
		return exact(num.Rem(a, b))
	case api.And:
		return truth(a != 0 && b != 0)
	}
	return truth(a != 0 || b != 0)
}

// exact stops if there is no such number.
func exact(n int, e api.Errno) number {
	if e != api.OK {
		panic(e)
	}
	return number(n)
}

// cat stops if both texts are too long together.
func cat(a, b text) text {
	if len(a) > api.MaxText-len(b) {
		panic(api.ErrLong)
	}
	return a + b
}

func truth(holds bool) number {
	if holds {
		return 1
	}
	return 0
}
