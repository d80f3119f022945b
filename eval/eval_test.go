package eval_test

import (
	"math"
	"math/big"
	"slices"
	"strings"
	"testing"

	"rescind/api"
	"rescind/eval"
	"rescind/expr"
	"rescind/schema"
	"rescind/value"
)

const (
	most    = math.MaxInt64
	least   = math.MinInt64
	maxCode = 64
	maxText = 64
	maxCols = 8
)

func number(n int) api.Value { return value.Num(n) }

func text(s string) api.Value { return api.Value{Kind: api.Text, Text: s} }

// is is the operation that answers a value.
func is(v api.Value) api.Op {
	if v.Kind == api.Text {
		return api.Op{Code: api.Str, Text: v.Text}
	}
	return api.Op{Code: api.Num, Num: v.Num}
}

func n(n int) api.Op { return is(number(n)) }

func str(s string) api.Op { return is(text(s)) }

func get(n int) api.Op { return api.Op{Code: api.Get, Num: n} }

func op(c api.Code) api.Op { return api.Op{Code: c} }

// of is an expression of operations.
func of(l ...api.Op) api.Expr { return l }

func ones() []api.Code { return []api.Code{api.Neg, api.Not, api.Len} }

func twos() []api.Code {
	return []api.Code{api.Add, api.Sub, api.Mul, api.Quo, api.Rem, api.Cat, api.Eq, api.Ne, api.Lt, api.Le, api.Gt, api.Ge, api.And, api.Or}
}

// noRows are lists of values that are no rows.
func noRows() []api.Row {
	return []api.Row{
		{{}}, {number(1), {}}, {{Kind: 3, Num: 1}}, {{Kind: -1}}, {{Kind: api.Number, Text: "a"}}, {{Kind: api.Text, Num: 1}}, {text(strings.Repeat("a", maxText+1))},
		slices.Repeat(api.Row{number(0)}, maxCols+1), make(api.Row, 1), make(api.Row, 5000),
	}
}

// noExprs are expressions that are not well formed, and not too long.
func noExprs() []api.Expr {
	return []api.Expr{
		nil, {}, of(op(0)), of(op(21)), of(op(-1)), of(op(257)), of(op(api.Neg)), of(op(api.Add)), of(n(1), op(api.Add)), of(n(1), n(1)), of(n(1), n(1), n(1), op(api.Add)), of(op(api.Len), str("a")),
		of(get(maxCols)), of(get(-1)), of(get(least)), of(str(strings.Repeat("a", maxText+1))), of(api.Op{Code: api.Num, Text: "a"}), of(api.Op{Code: api.Str, Num: 1}), of(api.Op{Code: api.Get, Text: "a"}),
		of(n(1), api.Op{Code: api.Neg, Num: 1}), of(n(1), n(1), api.Op{Code: api.Add, Text: "a"}), of(n(1), n(0), op(api.Quo), n(1)),
	}
}

// long are expressions of too many operations.
func long() []api.Expr {
	return []api.Expr{append(of(n(1)), slices.Repeat(of(op(api.Neg)), maxCode)...), make(api.Expr, maxCode+1), make(api.Expr, 5000), append(slices.Repeat(of(get(7)), 33), slices.Repeat(of(op(api.Or)), 32)...)}
}

// expect fails unless an expression has that result for a row, or that error.
func expect(t *testing.T, x api.Expr, r api.Row, v api.Value, e api.Errno) {
	t.Helper()
	ops, row := slices.Clone(x), slices.Clone(r)
	if got, f := eval.Eval(x, r); got != v || f != e {
		t.Fatalf("%v of %v: %v, error %d, and not %v, error %d", x, r, got, f, v, e)
	}
	holds, failed := v.Kind == api.Number && v.Num != 0, e
	if e == api.OK && v.Kind != api.Number {
		failed = api.ErrKind
	}
	if ok, f := eval.Holds(x, r); ok != holds || f != failed {
		t.Fatalf("%v of %v holds: %v, error %d, and not %v, error %d", x, r, ok, f, holds, failed)
	}
	if !slices.Equal(x, ops) || !slices.Equal(r, row) {
		t.Fatalf("changed: %v of %v", ops, row)
	}
}

// truth is 1 or 0.
func truth(holds bool) (api.Value, api.Errno) {
	if holds {
		return number(1), api.OK
	}
	return number(0), api.OK
}

// fits is the number that is exact, if 64 bits have room for it.
func fits(exact *big.Int) (api.Value, api.Errno) {
	if !exact.IsInt64() {
		return api.Value{}, api.ErrOver
	}
	return number(int(exact.Int64())), api.OK
}

// one is what an operation of one operand must answer.
func one(c api.Code, a api.Value) (api.Value, api.Errno) {
	switch {
	case (c == api.Len) != (a.Kind == api.Text):
		return api.Value{}, api.ErrKind
	case c == api.Len:
		return number(len(a.Text)), api.OK
	case c == api.Not:
		return truth(a.Num == 0)
	}
	return fits(new(big.Int).Neg(big.NewInt(int64(a.Num))))
}

// ordered is what a comparison must answer.
func ordered(c api.Code, a, b api.Value) (api.Value, api.Errno) {
	if a.Kind != b.Kind {
		return api.Value{}, api.ErrKind
	}
	less, equal := a.Num < b.Num || a.Text < b.Text, a == b
	switch c {
	case api.Eq:
		return truth(equal)
	case api.Ne:
		return truth(!equal)
	case api.Lt:
		return truth(less)
	case api.Le:
		return truth(less || equal)
	case api.Gt:
		return truth(!less && !equal)
	}
	return truth(!less)
}

// counted is what arithmetic must answer.
func counted(c api.Code, a, b int) (api.Value, api.Errno) {
	x, y, z := big.NewInt(int64(a)), big.NewInt(int64(b)), new(big.Int)
	switch c {
	case api.Add:
		return fits(z.Add(x, y))
	case api.Sub:
		return fits(z.Sub(x, y))
	case api.Mul:
		return fits(z.Mul(x, y))
	}
	if b == 0 {
		return api.Value{}, api.ErrZero
	}
	if c == api.Quo {
		return fits(z.Quo(x, y))
	}
	return fits(z.Rem(x, y))
}

// two is what an operation of two operands must answer.
func two(c api.Code, a, b api.Value) (api.Value, api.Errno) {
	if slices.Contains([]api.Code{api.Eq, api.Ne, api.Lt, api.Le, api.Gt, api.Ge}, c) {
		return ordered(c, a, b)
	}
	wanted := api.Number
	if c == api.Cat {
		wanted = api.Text
	}
	if a.Kind != wanted || b.Kind != wanted {
		return api.Value{}, api.ErrKind
	}
	switch c {
	case api.Cat:
		if len(a.Text)+len(b.Text) > maxText {
			return api.Value{}, api.ErrLong
		}
		return text(a.Text + b.Text), api.OK
	case api.And:
		return truth(a.Num != 0 && b.Num != 0)
	case api.Or:
		return truth(a.Num != 0 || b.Num != 0)
	}
	return counted(c, a.Num, b.Num)
}

// values are numbers and texts at the ends of what they may be, and about the places at which results begin or cease to fit.
func values() []api.Value {
	var l []api.Value
	for _, x := range []int{0, 1, 2, 3, 7, -1, -2, -3, -7, 64, 3037000499, 3037000500, -3037000500, 1 << 32, -1 << 32, 1 << 62, -1 << 62, most - 1, most, least + 1, least} {
		l = append(l, number(x))
	}
	for _, s := range []string{"", "a", "A", "ab", "aa", "b", "\x00", "a\x00", "\xff", "it's", "5", "0", "é", strings.Repeat("x", 32), strings.Repeat("y", 33), strings.Repeat("a", 63), strings.Repeat("a", 64), strings.Repeat("\xff", 64)} {
		l = append(l, text(s))
	}
	return l
}

// P18.1: the operations without operands.
func TestValues(t *testing.T) {
	for _, v := range values() {
		expect(t, of(is(v)), nil, v, api.OK)
		expect(t, of(get(0)), api.Row{v}, v, api.OK)
		r := slices.Repeat(api.Row{number(9)}, maxCols)
		r[5] = v
		expect(t, of(get(5)), r, v, api.OK)
		expect(t, of(get(7)), r, number(9), api.OK)
	}
}

// P18.1: each operation of one operand, of values of both kinds.
func TestOperationsOfOne(t *testing.T) {
	for _, a := range values() {
		for _, c := range ones() {
			v, e := one(c, a)
			expect(t, of(is(a), op(c)), nil, v, e)
			expect(t, of(get(0), op(c)), api.Row{a}, v, e)
		}
	}
}

// P18.1: each operation of two operands, of all pairs of values.
func TestOperationsOfTwo(t *testing.T) {
	l := values()
	for _, a := range l {
		for _, b := range l {
			for _, c := range twos() {
				v, e := two(c, a, b)
				expect(t, of(is(a), is(b), op(c)), nil, v, e)
				expect(t, of(get(1), get(0), op(c)), api.Row{b, a}, v, e)
			}
		}
	}
}

// exampleTest is what must be answered.
type exampleTest struct {
	x api.Expr
	v api.Value
	e api.Errno
}

// P18.1: the document's examples, and others.
func TestExamples(t *testing.T) {
	tests := []exampleTest{
		{of(get(0), n(3), op(api.Quo)), number(2), api.OK},
		{of(get(0), n(-3), op(api.Quo)), number(-2), api.OK},
		{of(get(0), op(api.Neg), n(3), op(api.Rem)), number(-1), api.OK},
		{of(n(1), n(0), op(api.Quo)), api.Value{}, api.ErrZero},
		{of(n(1), n(0), op(api.Rem)), api.Value{}, api.ErrZero},
		{of(n(0), n(0), op(api.Quo)), api.Value{}, api.ErrZero},
		{of(n(least), n(-1), op(api.Quo)), api.Value{}, api.ErrOver},
		{of(n(least), n(-1), op(api.Rem)), number(0), api.OK},
		{of(n(least), op(api.Neg)), api.Value{}, api.ErrOver},
		{of(str("a"), str("b"), op(api.Lt)), number(1), api.OK},
		{of(str("b"), str("a"), op(api.Lt)), number(0), api.OK},
		{of(str("a"), str("ab"), op(api.Lt)), number(1), api.OK},
		{of(str("a"), str("b"), op(api.Cat)), text("ab"), api.OK}, // and not ba
		{of(n(7), n(3), op(api.Sub)), number(4), api.OK},          // and not -4
		{of(n(5), op(api.Not)), number(0), api.OK},
		{of(n(0), op(api.Not)), number(1), api.OK},
		{of(n(least), op(api.Not)), number(0), api.OK},
		{of(n(5), n(-1), op(api.And)), number(1), api.OK},
		{of(n(2), n(1), op(api.And)), number(1), api.OK}, // of numbers, and not of their bits
		{of(n(4), n(0), op(api.Or)), number(1), api.OK},
		{of(n(0), str("a"), op(api.And)), api.Value{}, api.ErrKind}, // the second one counts, whatever the first one is
		{of(n(1), str("a"), op(api.Or)), api.Value{}, api.ErrKind},
		{of(n(1), str("a"), op(api.Lt)), api.Value{}, api.ErrKind},
		{of(n(0), str(""), op(api.Ne)), api.Value{}, api.ErrKind},
		{of(str("\xc3\xa9"), op(api.Len)), number(2), api.OK}, // bytes, and not letters
		{of(get(0), n(1), n(2), op(api.Mul), op(api.Add)), number(9), api.OK},
		{of(get(0), n(1), op(api.Add), n(2), op(api.Mul)), number(16), api.OK},
		{of(get(1)), api.Value{}, api.ErrRange},
		{of(get(7)), api.Value{}, api.ErrRange},
		{of(get(8)), api.Value{}, api.ErrExpr},
	}
	for _, x := range tests {
		expect(t, x.x, api.Row{number(7)}, x.v, x.e)
	}
	expect(t, of(get(0), n(3), op(api.Quo)), api.Row{text("a")}, api.Value{}, api.ErrKind)
	expect(t, of(get(0)), nil, api.Value{}, api.ErrRange)
	expect(t, of(get(0)), api.Row{}, api.Value{}, api.ErrRange)
}

// P18.1: the first operation that goes wrong decides, whatever goes wrong behind it.
func TestFirstErrorDecides(t *testing.T) {
	wrong := map[api.Errno]api.Expr{
		api.ErrZero:  of(n(1), n(0), op(api.Rem)),
		api.ErrOver:  of(n(most), n(1), op(api.Add)),
		api.ErrKind:  of(str("a"), op(api.Neg)),
		api.ErrRange: of(get(1)),
		api.ErrLong:  of(str(strings.Repeat("a", maxText)), str("a"), op(api.Cat)),
	}
	r := api.Row{number(7)}
	for e, x := range wrong {
		expect(t, x, r, api.Value{}, e)
		for _, c := range ones() {
			expect(t, append(slices.Clone(x), op(c)), r, api.Value{}, e)
		}
		for _, c := range twos() {
			for _, y := range wrong {
				expect(t, slices.Concat(x, y, of(op(c))), r, api.Value{}, e)
			}
			for _, v := range []api.Value{number(0), number(1), text("a")} {
				expect(t, slices.Concat(x, of(is(v), op(c))), r, api.Value{}, e)
				expect(t, slices.Concat(of(is(v)), x, of(op(c))), r, api.Value{}, e)
			}
		}
	}
	expect(t, of(n(1), str("a"), op(api.Add), get(5), op(api.Add)), r, api.Value{}, api.ErrKind)
	expect(t, of(str("a"), get(5), op(api.Add)), r, api.Value{}, api.ErrRange)
	expect(t, of(n(0), get(5), op(api.And)), r, api.Value{}, api.ErrRange)
}

// P18.1: the form is told ahead of the row, and that ahead of what goes wrong.
func TestErrorsOfArguments(t *testing.T) {
	fine := api.Row{number(7), text("a")}
	for _, r := range append(noRows(), fine, nil) {
		for _, x := range noExprs() {
			expect(t, x, r, api.Value{}, api.ErrExpr)
		}
		for _, x := range long() {
			expect(t, x, r, api.Value{}, api.ErrLong)
		}
	}
	for _, r := range noRows() {
		for _, x := range []api.Expr{of(n(1)), of(get(0)), of(get(7)), of(n(1), n(0), op(api.Quo)), of(str("a"), op(api.Neg))} {
			expect(t, x, r, api.Value{}, api.ErrArg)
		}
	}
}

// P18.1
func TestHolds(t *testing.T) {
	tests := []struct {
		x  api.Expr
		ok bool
		e  api.Errno
	}{
		{of(n(1)), true, api.OK},
		{of(n(-1)), true, api.OK},
		{of(n(least)), true, api.OK},
		{of(n(1 << 32)), true, api.OK},
		{of(n(0)), false, api.OK},
		{of(get(0)), true, api.OK},
		{of(get(0), n(7), op(api.Ne)), false, api.OK},
		{of(get(1)), false, api.ErrKind},
		{of(str("")), false, api.ErrKind},
		{of(get(2)), false, api.ErrRange},
		{of(get(0), n(0), op(api.Quo)), false, api.ErrZero},
		{of(n(most), n(2), op(api.Mul)), false, api.ErrOver},
		{of(str(strings.Repeat("a", 33)), str(strings.Repeat("a", 32)), op(api.Cat)), false, api.ErrLong},
		{of(get(1), op(api.Not)), false, api.ErrKind},
		{nil, false, api.ErrExpr},
		{make(api.Expr, maxCode+1), false, api.ErrLong},
	}
	for _, x := range tests {
		if ok, e := eval.Holds(x.x, api.Row{number(7), text("a")}); ok != x.ok || e != x.e {
			t.Errorf("%v: %v, error %d", x.x, ok, e)
		}
	}
	if ok, e := eval.Holds(of(n(1)), make(api.Row, 1)); ok || e != api.ErrArg {
		t.Error(ok, e)
	}
}

// P18.1: expressions as long as they may be, with as many results as there may be that wait.
func TestLong(t *testing.T) {
	nots := append(of(n(5)), slices.Repeat(of(op(api.Not)), maxCode-1)...)
	expect(t, nots, nil, number(0), api.OK)
	expect(t, nots[:maxCode-1], nil, number(1), api.OK)
	deep := append(slices.Repeat(of(get(0)), 32), slices.Repeat(of(op(api.Sub)), 31)...)
	expect(t, deep, api.Row{number(3)}, number(0), api.OK) // 3 - (3 - (3 - ..))
	expect(t, deep[1:62], api.Row{number(3)}, number(3), api.OK)
	texts := of(str("a"))
	for range 31 {
		texts = append(texts, str("bc"), op(api.Cat))
	}
	expect(t, texts, nil, text("a"+strings.Repeat("bc", 31)), api.OK)
	expect(t, append(texts, op(api.Len)), nil, number(63), api.OK)
}

// dice are numbers without a pattern, the same each time.
type dice uint64

func (d *dice) roll(n int) int {
	*d = *d*6364136223846793005 + 1442695040888963407
	return int(uint64(*d)>>33) % n
}

// value is one of that kind.
func (d *dice) value(k api.Kind) api.Value {
	l := slices.DeleteFunc(values(), func(v api.Value) bool { return v.Kind != k })
	return l[d.roll(len(l))]
}

// row is one that fits a schema.
func (d *dice) row(s api.Schema) api.Row {
	var r api.Row
	for _, c := range s {
		r = append(r, d.value(c.Kind))
	}
	return r
}

func (d *dice) kind() api.Kind { return []api.Kind{api.Number, api.Text}[d.roll(2)] }

func (d *dice) schema() api.Schema {
	var s api.Schema
	for i := range 1 + d.roll(maxCols) {
		s = append(s, api.Col{Name: string([]byte{byte('a' + i)}), Kind: d.kind()})
	}
	return s
}

// expr is a well-formed expression of up to so many operations, whose result is of that kind for rows that fit a schema; now and then a part is of another kind, if it may be wrong.
func (d *dice) expr(upTo int, k api.Kind, s api.Schema, mayBeWrong bool) api.Expr {
	if mayBeWrong && d.roll(20) == 0 {
		k = d.kind()
	}
	pair := func(c api.Code, k api.Kind) api.Expr {
		first := d.expr(upTo-2, k, s, mayBeWrong)
		second := d.expr(upTo-1-len(first), k, s, mayBeWrong)
		return slices.Concat(first, second, of(op(c)))
	}
	form := d.roll(9)
	switch {
	case k == api.Text && upTo >= 3 && form > 4:
		return pair(api.Cat, api.Text)
	case k == api.Number && upTo >= 3 && form > 3:
		c := []api.Code{api.Add, api.Sub, api.Mul, api.Quo, api.Rem, api.And, api.Or, api.Eq, api.Ne, api.Lt, api.Le, api.Gt, api.Ge}[d.roll(13)]
		if api.Eq <= c && c <= api.Ge {
			return pair(c, d.kind())
		}
		return pair(c, api.Number)
	case k == api.Number && upTo >= 2 && form == 0:
		return append(d.expr(upTo-1, api.Text, s, mayBeWrong), op(api.Len))
	case k == api.Number && upTo >= 2 && form < 3:
		return append(d.expr(upTo-1, api.Number, s, mayBeWrong), op(ones()[d.roll(2)]))
	}
	col := d.roll(len(s))
	if s[col].Kind == k || mayBeWrong && d.roll(9) == 0 {
		return of(get(col))
	}
	return of(is(d.value(k)))
}

// result is what the document says: the results of the parts, the first one first, and what the last operation makes of them.
func result(x api.Expr, r api.Row) (api.Value, api.Errno) {
	parts, _ := expr.Parts(x)
	var l []api.Value
	for _, part := range parts {
		v, e := result(part, r)
		if e != api.OK {
			return api.Value{}, e
		}
		l = append(l, v)
	}
	last := x[len(x)-1]
	switch {
	case len(l) == 1:
		return one(last.Code, l[0])
	case len(l) == 2:
		return two(last.Code, l[0], l[1])
	case last.Code == api.Num:
		return number(last.Num), api.OK
	case last.Code == api.Str:
		return text(last.Text), api.OK
	case last.Num >= len(r):
		return api.Value{}, api.ErrRange
	}
	return r[last.Num], api.OK
}

// P18.1: expressions of all sizes, right and wrong, held against the definition.
func TestMixed(t *testing.T) {
	d := dice(1)
	answered := map[api.Errno]int{}
	for i := range 6000 {
		s := d.schema()
		r := d.row(s)
		x := d.expr(1+i%20, d.kind(), s, true)
		if d.roll(3) == 0 { // a row that is too short
			r = r[:d.roll(len(r))]
		}
		v, e := result(x, r)
		expect(t, x, r, v, e)
		answered[e]++
	}
	for _, e := range []api.Errno{api.OK, api.ErrOver, api.ErrZero, api.ErrLong, api.ErrKind, api.ErrRange} {
		if answered[e] < 20 {
			t.Errorf("only %d are answered by %d", answered[e], e)
		}
	}
}

// P18.2: what layer 17 accepts has a result of the kind that it tells, or an error that hangs on the values.
func TestKindOfResult(t *testing.T) {
	d := dice(2)
	accepted, answered := 0, 0
	for i := range 6000 {
		s := d.schema()
		r := d.row(s)
		x := d.expr(1+i%maxCode, d.kind(), s, i%3 == 0)
		k, e := expr.Check(x, s)
		if e != api.OK || !schema.Fits(s, r) {
			continue
		}
		v, e := eval.Eval(x, r)
		if e == api.OK && v.Kind != k || e != api.OK && e != api.ErrOver && e != api.ErrZero && e != api.ErrLong {
			t.Fatalf("%v of %v: %v, error %d, and not of kind %d", x, r, v, e, k)
		}
		if e == api.OK && !value.May(v) {
			t.Fatalf("%v of %v: %v", x, r, v)
		}
		accepted++
		if e == api.OK {
			answered++
		}
	}
	if accepted < 4000 || answered < 1000 {
		t.Errorf("only %d are accepted, and %d have a result", accepted, answered)
	}
}

// P18.3: the results of the parts may stand for the parts.
func TestPartsDecide(t *testing.T) {
	d := dice(3)
	answered := 0
	for i := range 4000 {
		s := d.schema()
		r := d.row(s)
		x := d.expr(2+i%30, d.kind(), s, i%2 == 0)
		parts, e := expr.Parts(x)
		if e != api.OK {
			t.Fatal(x, e)
		}
		if len(parts) == 0 {
			continue
		}
		var short api.Expr
		for _, part := range parts {
			v, f := eval.Eval(part, r)
			if e == api.OK {
				e = f
			}
			short = append(short, is(v))
		}
		v, f := eval.Eval(x, r)
		if e != api.OK { // the first error of a part is that of the whole
			if f != e || v != (api.Value{}) {
				t.Fatalf("%v of %v: %v, error %d, and not %d", x, r, v, f, e)
			}
			continue
		}
		short = append(short, x[len(x)-1])
		expect(t, short, nil, v, f)
		answered++
	}
	if answered < 1000 {
		t.Errorf("only the parts of %d have results", answered)
	}
}
