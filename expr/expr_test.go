package expr_test

import (
	"bytes"
	"math"
	"slices"
	"strings"
	"testing"

	"rescind/api"
	"rescind/bin"
	"rescind/expr"
)

const (
	most    = math.MaxInt64
	least   = math.MinInt64
	maxCode = 64
	maxText = 64
	maxCols = 8
)

func number(n int) api.Op { return api.Op{Code: api.Num, Num: n} }

func text(s string) api.Op { return api.Op{Code: api.Str, Text: s} }

func get(n int) api.Op { return api.Op{Code: api.Get, Num: n} }

func op(c api.Code) api.Op { return api.Op{Code: c} }

// of is an expression of operations.
func of(l ...api.Op) api.Expr { return l }

// ends are an operation, and so many of another one behind it.
func ends(first api.Op, count int, other api.Op) api.Expr {
	return append(of(first), slices.Repeat(of(other), count)...)
}

// ones and twos are the codes of operations with so many operands, as the document names them.
func ones() []api.Code { return []api.Code{api.Neg, api.Not, api.Len} }

func twos() []api.Code {
	return []api.Code{api.Add, api.Sub, api.Mul, api.Quo, api.Rem, api.Cat, api.Eq, api.Ne, api.Lt, api.Le, api.Gt, api.Ge, api.And, api.Or}
}

// noCodes are numbers that are no codes; as a byte some of them would be.
func noCodes() []api.Code {
	return []api.Code{0, 21, 22, 127, 128, 255, 256, 257, 260, 276, 1 << 32, 1<<32 + 1, most, -1, -2, -20, -255, -252, least, least + 4}
}

// noOps are operations that are not valid.
func noOps() []api.Op {
	long := strings.Repeat("a", maxText+1)
	l := []api.Op{
		{Code: api.Num, Text: "a"},
		{Code: api.Num, Num: 5, Text: "\x00"},
		{Code: api.Str, Num: 1},
		{Code: api.Str, Num: -1, Text: "a"},
		{Code: api.Str, Num: least},
		{Code: api.Str, Text: long},
		{Code: api.Str, Text: strings.Repeat(long, 100)},
		{Code: api.Get, Num: maxCols},
		{Code: api.Get, Num: -1},
		{Code: api.Get, Num: most},
		{Code: api.Get, Num: least},
		{Code: api.Get, Num: 256},
		{Code: api.Get, Text: "a"},
	}
	for _, c := range noCodes() {
		l = append(l, op(c), api.Op{Code: c, Num: 1}, api.Op{Code: c, Text: "a"})
	}
	return l
}

// signs are the kinds that an operation's operands may be of, and behind them that of its result: n a number, t a text.
func signs(c api.Code) []string {
	switch {
	case c == api.Neg || c == api.Not:
		return []string{"nn"}
	case c == api.Len:
		return []string{"tn"}
	case c == api.Cat:
		return []string{"ttt"}
	case slices.Contains([]api.Code{api.Eq, api.Ne, api.Lt, api.Le, api.Gt, api.Ge}, c):
		return []string{"nnn", "ttn"}
	}
	return []string{"nnn"}
}

func letter(k api.Kind) string {
	if k == api.Number {
		return "n"
	}
	return "t"
}

// kindOf is the kind that a letter stands for.
func kindOf(s string) api.Kind {
	if s == "n" {
		return api.Number
	}
	return api.Text
}

func columns(kinds ...api.Kind) api.Schema {
	var s api.Schema
	for i, k := range kinds {
		s = append(s, api.Col{Name: string([]byte{byte('a' + i)}), Kind: k})
	}
	return s
}

// noSchemas are lists that are no schemas.
func noSchemas() []api.Schema {
	return []api.Schema{
		nil, {}, {{}}, {{Name: "a"}}, {{Name: "a", Kind: 3}}, {{Name: "A", Kind: api.Number}}, {{Name: "len", Kind: api.Text}},
		{{Name: "a", Kind: api.Number}, {Name: "a", Kind: api.Text}}, make(api.Schema, 9), append(columns(1, 1, 1, 1, 1, 1, 1, 1), api.Col{Name: "z", Kind: api.Number}),
	}
}

// split is what the document says of the form: the expressions that are the operands of the last operation, if there are such.
func split(x api.Expr) ([]api.Expr, bool) {
	if len(x) == 0 {
		return nil, false
	}
	ahead, last := x[:len(x)-1], x[len(x)-1].Code
	switch {
	case slices.Contains(ones(), last):
		_, ok := split(ahead)
		return []api.Expr{ahead}, ok
	case slices.Contains(twos(), last):
		for i := range ahead {
			_, first := split(ahead[:i])
			_, second := split(ahead[i:])
			if first && second {
				return []api.Expr{ahead[:i], ahead[i:]}, true
			}
		}
		return nil, false
	}
	return nil, len(x) == 1
}

// short are all expressions, well formed or not, of up to so many of these operations.
func short(upTo int, l ...api.Op) []api.Expr {
	all := []api.Expr{nil}
	for from := 0; upTo > 0; upTo-- {
		to := len(all)
		for _, x := range all[from:to] {
			for _, o := range l {
				all = append(all, append(slices.Clone(x), o))
			}
		}
		from = to
	}
	return all
}

// dice are numbers without a pattern, the same each time.
type dice uint64

func (d *dice) roll(n int) int {
	*d = *d*6364136223846793005 + 1442695040888963407
	return int(uint64(*d)>>33) % n
}

// expr is a well-formed expression of up to so many operations, of whatever kinds.
func (d *dice) expr(upTo int) api.Expr {
	switch form := d.roll(8); {
	case upTo >= 3 && form > 2:
		first := d.expr(upTo - 2)
		second := d.expr(upTo - 1 - len(first))
		return slices.Concat(first, second, of(op(twos()[d.roll(14)])))
	case upTo >= 2 && form > 0:
		return append(d.expr(upTo-1), op(ones()[d.roll(3)]))
	}
	switch d.roll(3) {
	case 0:
		return of(number([]int{0, 1, -1, 63, -64, 64, -65, 1 << 40, least, most}[d.roll(10)]))
	case 1:
		return of(text([]string{"", "a", "it's", "\x00\xff", strings.Repeat("x", maxText)}[d.roll(5)]))
	}
	return of(get(d.roll(maxCols)))
}

// mixed are well-formed expressions of all sizes.
func mixed(count int) []api.Expr {
	d := dice(count)
	l := []api.Expr{ends(number(1), maxCode-1, op(api.Neg)), append(slices.Repeat(of(get(7)), 32), slices.Repeat(of(op(api.Or)), 31)...)}
	for i := range count {
		l = append(l, d.expr(1+i%maxCode))
	}
	return l
}

// broken are expressions that are not well formed, and not too long.
func broken() []api.Expr {
	l := []api.Expr{
		nil, {}, of(op(api.Neg)), of(op(api.Add)), of(number(1), op(api.Add)), of(op(api.Add), number(1), number(1)), of(number(1), number(1)),
		of(number(1), op(api.Add), number(1)), of(number(1), number(1), number(1), op(api.Add)), of(op(api.Neg), number(1)), of(get(0), op(api.Add), op(api.Neg)),
		slices.Repeat(of(number(1)), maxCode), slices.Repeat(of(op(api.Or)), maxCode), append(slices.Repeat(of(get(7)), 32), slices.Repeat(of(op(api.Or)), 32)...),
	}
	for _, o := range noOps() {
		l = append(l, of(o), of(o, op(api.Neg)), of(number(1), o), of(number(1), o, op(api.Add)), of(number(1), number(1), o), of(number(1), op(api.Neg), o))
	}
	return l
}

// long are expressions of too many operations, well formed but for that or not.
func long() []api.Expr {
	return []api.Expr{
		ends(number(1), maxCode, op(api.Neg)), make(api.Expr, maxCode+1), slices.Repeat(of(number(1)), maxCode+1), make(api.Expr, 256+maxCode), make(api.Expr, 1<<16), ends(number(1), 5000, op(api.Not)),
		append(slices.Repeat(of(get(8)), 33), slices.Repeat(of(op(api.Or)), 32)...), slices.Repeat(of(op(api.Add)), maxCode+1),
	}
}

// P17.1: the document's examples, and each code.
func TestTakes(t *testing.T) {
	want := map[api.Code]int{api.Num: 0, api.Str: 0, api.Get: 0}
	for _, c := range ones() {
		want[c] = 1
	}
	for _, c := range twos() {
		want[c] = 2
	}
	for c, n := range want {
		if got := expr.Takes(c); got != n {
			t.Errorf("%d takes %d, and not %d", c, got, n)
		}
	}
	for _, c := range noCodes() {
		if got := expr.Takes(c); got != -1 {
			t.Errorf("%d takes %d", c, got)
		}
	}
	for c := api.Code(-1000); c <= 1000; c++ {
		if _, ok := want[c]; !ok && expr.Takes(c) != -1 {
			t.Errorf("%d takes %d", c, expr.Takes(c))
		}
	}
	if expr.Takes(api.Or) != 2 || expr.Takes(api.Not) != 1 || expr.Takes(api.Get) != 0 {
		t.Error("the document's examples")
	}
}

// P17.1: operations, each by itself or with operands, at the ends of what is valid.
func TestFormOfOperations(t *testing.T) {
	l := []api.Expr{of(number(0)), of(number(most)), of(number(least)), of(number(-1)), of(text("")), of(text("a")), of(text("\x00\xff")), of(text(strings.Repeat("a", maxText)))}
	for col := range maxCols {
		l = append(l, of(get(col)))
	}
	for _, c := range ones() {
		l = append(l, of(number(1), op(c)))
	}
	for _, c := range twos() {
		l = append(l, of(number(1), text("a"), op(c)))
	}
	for _, x := range l {
		if e := expr.Form(x); e != api.OK {
			t.Errorf("%v: %d", x, e)
		}
	}
	for _, x := range broken() {
		if e := expr.Form(x); e != api.ErrExpr {
			t.Errorf("%v: %d", x, e)
		}
	}
	for _, c := range slices.Concat(ones(), twos()) {
		operands := slices.Repeat(of(number(1)), expr.Takes(c))
		for _, o := range []api.Op{{Code: c, Num: 1}, {Code: c, Num: -1}, {Code: c, Num: least}, {Code: c, Text: "a"}, {Code: c, Num: 1, Text: "a"}} {
			if e := expr.Form(append(slices.Clone(operands), o)); e != api.ErrExpr {
				t.Errorf("%v: %d", o, e)
			}
		}
	}
}

// P17.1: what is too long is told ahead of what else is wrong.
func TestFormOfLong(t *testing.T) {
	for _, x := range long() {
		if e := expr.Form(x); e != api.ErrLong {
			t.Errorf("of %d: %d", len(x), e)
		}
	}
	for count := range maxCode {
		if e := expr.Form(ends(number(1), count, op(api.Not))); e != api.OK {
			t.Error(count, e)
		}
	}
}

// P17.1, P17.4: all short expressions, held against the definition.
func TestFormAndPartsOfAllShort(t *testing.T) {
	for _, x := range short(7, get(1), op(api.Len), op(api.Cat)) {
		want, ok := split(x)
		if (expr.Form(x) == api.OK) != ok {
			t.Fatal(x, expr.Form(x))
		}
		got, e := expr.Parts(x)
		if e != expr.Form(x) {
			t.Fatal(x, e)
		}
		if ok && !slices.EqualFunc(got, want, expr.Same) || !ok && len(got) > 0 {
			t.Fatalf("the parts of %v are %v, and not %v", x, got, want)
		}
	}
}

// P17.1: the document's example.
func TestParts(t *testing.T) {
	x := of(get(0), number(1), number(2), op(api.Mul), op(api.Add))
	l, e := expr.Parts(x)
	if e != api.OK || len(l) != 2 || !slices.Equal(l[0], of(get(0))) || !slices.Equal(l[1], of(number(1), number(2), op(api.Mul))) {
		t.Fatal(l, e)
	}
	l, e = expr.Parts(of(get(0), number(1), op(api.Mul), number(2), op(api.Add)))
	if e != api.OK || len(l) != 2 || !slices.Equal(l[0], of(get(0), number(1), op(api.Mul))) || !slices.Equal(l[1], of(number(2))) {
		t.Fatal(l, e)
	}
	l, e = expr.Parts(append(slices.Clone(x), op(api.Neg)))
	if e != api.OK || len(l) != 1 || !slices.Equal(l[0], x) {
		t.Fatal(l, e)
	}
	for _, o := range of(get(0), number(5), text("a")) {
		if l, e := expr.Parts(of(o)); e != api.OK || len(l) > 0 {
			t.Fatal(o, l, e)
		}
	}
}

// P17.1, P2: beside an error there are no parts.
func TestPartsErrors(t *testing.T) {
	for _, x := range broken() {
		if l, e := expr.Parts(x); len(l) > 0 || e != api.ErrExpr {
			t.Errorf("%v: %v, %d", x, l, e)
		}
	}
	for _, x := range long() {
		if l, e := expr.Parts(x); len(l) > 0 || e != api.ErrLong {
			t.Errorf("of %d: %v, %d", len(x), l, e)
		}
	}
}

// P17.4: the parts, and the last operation, are the expression; each part is well formed.
func TestPartsAreTheWhole(t *testing.T) {
	for _, x := range mixed(2000) {
		l, e := expr.Parts(x)
		last := x[len(x)-1]
		if e != api.OK || len(l) != expr.Takes(last.Code) {
			t.Fatal(x, l, e)
		}
		if whole := append(slices.Concat(l...), last); !slices.Equal(whole, x) {
			t.Fatalf("%v is none of %v", l, x)
		}
		for _, part := range l {
			if e := expr.Form(part); e != api.OK {
				t.Fatalf("%v of %v: %d", part, x, e)
			}
		}
	}
}

// P3: parts have no memory in common, neither with one another nor with the expression.
func TestPartsMemory(t *testing.T) {
	room := of(get(0), number(1), number(2), op(api.Mul), op(api.Add), number(9), number(9))
	want := slices.Clone(room)
	l, e := expr.Parts(room[:5])
	if e != api.OK || !slices.Equal(room, want) {
		t.Fatal(l, e, room)
	}
	first, second := l[0], l[1]
	fill := func(x api.Expr) {
		for i := range x[:cap(x)] {
			x[:cap(x)][i] = number(-77)
		}
	}
	fill(first)
	if !slices.Equal(second, want[1:4]) || !slices.Equal(room, want) {
		t.Fatal(second, room)
	}
	fill(second)
	if first[0] != number(-77) || !slices.Equal(room, want) {
		t.Fatal(first, room)
	}
	fill(room)
	again, _ := expr.Parts(want[:5])
	fill(want)
	if !slices.Equal(again[0], of(get(0))) || !slices.Equal(again[1], of(number(1), number(2), op(api.Mul))) {
		t.Fatal(again)
	}
}

// P17.1: of what is well formed, and of what is not.
func TestSame(t *testing.T) {
	l := slices.Concat(broken(), long()[:4], mixed(60))
	for i, a := range l {
		for j, b := range l {
			if same := expr.Same(a, slices.Clone(b)); same != slices.Equal(a, b) {
				t.Errorf("%d and %d: %v and %v: %v", i, j, a, b, same)
			}
		}
	}
	if !expr.Same(nil, api.Expr{}) || !expr.Same(api.Expr{}, nil) || expr.Same(nil, make(api.Expr, 1)) || expr.Same(make(api.Expr, 1), nil) {
		t.Error("a nil expression has no operations, as an empty one")
	}
	for _, x := range [][2]api.Op{
		{number(1), number(2)}, {number(0), get(0)}, {text(""), number(0)}, {text("a"), text("b")}, {text("a"), text("ab")}, {op(0), op(21)}, {op(api.Lt), op(api.Le)},
		{{Code: api.Num, Text: "a"}, {Code: api.Num}}, {{Code: api.Add, Num: 1}, {Code: api.Add}}, {{Code: 30, Num: 1}, {Code: 30, Num: 2}}, {{Code: 0, Text: "a"}, {Code: 0, Text: "b"}},
	} {
		if expr.Same(of(x[0]), of(x[1])) || expr.Same(of(number(1), x[0]), of(number(1), x[1])) || expr.Same(of(x[0], number(1)), of(x[1], number(1))) {
			t.Error(x)
		}
		if !expr.Same(of(x[0]), of(x[0])) || expr.Same(of(x[0]), of(x[0], x[0])) || expr.Same(of(x[0], x[0]), of(x[0])) {
			t.Error(x)
		}
	}
}

// kindTest is what Check must answer.
type kindTest struct {
	x api.Expr
	s api.Schema
	k api.Kind
	e api.Errno
}

func (x kindTest) run(t *testing.T) {
	t.Helper()
	s, before := slices.Clone(x.s), slices.Clone(x.x)
	if k, e := expr.Check(x.x, x.s); k != x.k || e != x.e {
		t.Errorf("%v of %v: %d, error %d, and not %d, error %d", x.x, x.s, k, e, x.k, x.e)
	}
	if !slices.Equal(x.s, s) || !slices.Equal(x.x, before) {
		t.Errorf("changed: %v of %v", before, s)
	}
}

// P17.2: the document's example, and the ends of what it names.
func TestCheck(t *testing.T) {
	s := columns(api.Number, api.Text)
	tests := []kindTest{
		{of(get(0), op(api.Len)), s, api.NoKind, api.ErrKind},
		{of(get(1), op(api.Len)), s, api.Number, api.OK},
		{of(number(least)), s, api.Number, api.OK},
		{of(text("")), s, api.Text, api.OK},
		{of(get(0)), s, api.Number, api.OK},
		{of(get(1)), s, api.Text, api.OK},
		{of(get(2)), s, api.NoKind, api.ErrRange},
		{of(get(7)), s, api.NoKind, api.ErrRange},
		{of(get(7)), columns(1, 1, 1, 1, 1, 1, 1, 2), api.Text, api.OK},
		{of(get(7)), columns(1, 1, 1, 1, 1, 1, 1), api.NoKind, api.ErrRange},
		{of(get(8)), s, api.NoKind, api.ErrExpr},
		{of(get(1), text("a"), op(api.Cat), op(api.Len), op(api.Neg), op(api.Not)), s, api.Number, api.OK},
		{of(get(1), text("a"), op(api.Eq), get(0), number(3), op(api.Eq), op(api.And)), s, api.Number, api.OK},
		{of(get(1), text("a"), op(api.Eq), get(1), op(api.Eq)), s, api.NoKind, api.ErrKind},
		{of(get(0), get(1), text("a"), op(api.Cat), op(api.Cat)), s, api.NoKind, api.ErrKind},
		{of(get(0), get(1), op(api.Len), op(api.Add)), s, api.Number, api.OK},
		// what comes first decides
		{of(get(2), get(0), op(api.Len), op(api.Add)), s, api.NoKind, api.ErrRange},
		{of(get(0), op(api.Len), get(2), op(api.Add)), s, api.NoKind, api.ErrKind},
		{of(text("a"), get(2), op(api.Add)), s, api.NoKind, api.ErrRange},
		{of(get(2), text("a"), op(api.Add)), s, api.NoKind, api.ErrRange},
		{of(text("a"), op(api.Neg), get(2), op(api.Add)), s, api.NoKind, api.ErrKind},
	}
	for _, x := range tests {
		x.run(t)
	}
}

// P17.2: each operation, with operands of all kinds.
func TestCheckOfOperations(t *testing.T) {
	s := columns(api.Text, api.Number)
	kinds := []api.Kind{api.Number, api.Text}
	want := func(c api.Code, letters string) (api.Kind, api.Errno) {
		for _, sign := range signs(c) {
			if sign[:len(sign)-1] == letters {
				return kindOf(sign[len(sign)-1:]), api.OK
			}
		}
		return api.NoKind, api.ErrKind
	}
	leaves := func(k api.Kind) []api.Op {
		if k == api.Number {
			return []api.Op{number(0), get(1)}
		}
		return []api.Op{text(""), get(0)}
	}
	for _, a := range kinds {
		for _, first := range leaves(a) {
			for _, c := range ones() {
				k, e := want(c, letter(a))
				kindTest{of(first, op(c)), s, k, e}.run(t)
			}
			for _, b := range kinds {
				for _, second := range leaves(b) {
					for _, c := range twos() {
						k, e := want(c, letter(a)+letter(b))
						kindTest{of(first, second, op(c)), s, k, e}.run(t)
					}
				}
			}
		}
	}
}

// P17.2: the form is told ahead of the schema, and that ahead of all else.
func TestCheckErrors(t *testing.T) {
	good := columns(api.Number, api.Text)
	for _, s := range append(noSchemas(), good) {
		for _, x := range broken() {
			kindTest{x, s, api.NoKind, api.ErrExpr}.run(t)
		}
		for _, x := range long() {
			kindTest{x, s, api.NoKind, api.ErrLong}.run(t)
		}
	}
	for _, s := range noSchemas() {
		for _, x := range []api.Expr{of(number(1)), of(get(0)), of(get(7)), of(text("a"), op(api.Neg))} {
			kindTest{x, s, api.NoKind, api.ErrSchema}.run(t)
		}
	}
}

// check is what the document says of a well-formed expression: what is wrong in the parts, the first one first, is wrong ahead of what the last operation has.
func check(x api.Expr, s api.Schema) (api.Kind, api.Errno) {
	last := x[len(x)-1]
	switch last.Code {
	case api.Num:
		return api.Number, api.OK
	case api.Str:
		return api.Text, api.OK
	case api.Get:
		if last.Num >= len(s) {
			return api.NoKind, api.ErrRange
		}
		return s[last.Num].Kind, api.OK
	}
	parts, _ := split(x)
	letters := ""
	for _, part := range parts {
		k, e := check(part, s)
		if e != api.OK {
			return api.NoKind, e
		}
		letters += letter(k)
	}
	for _, sign := range signs(last.Code) {
		if sign[:len(sign)-1] == letters {
			return kindOf(sign[len(sign)-1:]), api.OK
		}
	}
	return api.NoKind, api.ErrKind
}

// P17.2: all short expressions, held against the definition.
func TestCheckOfAllShort(t *testing.T) {
	s := columns(api.Number, api.Text)
	for _, x := range short(5, get(0), get(1), get(2), op(api.Len), op(api.Neg), op(api.Cat), op(api.Eq), op(api.Mul)) {
		if _, ok := split(x); !ok {
			continue
		}
		k, e := check(x, s)
		kindTest{x, s, k, e}.run(t)
	}
}

// P17.2: expressions of all sizes, most of them with an error in them.
func TestCheckOfMixed(t *testing.T) {
	d := dice(3)
	for i := range 1500 {
		s := columns([]api.Kind{1, 2, 1, 1, 2, 2, 1, 2}[:1+d.roll(maxCols)]...)
		x := d.expr(1 + i%12)
		k, e := check(x, s)
		kindTest{x, s, k, e}.run(t)
	}
}

// P17.3: the document's encoding, and each part of it.
func TestBytes(t *testing.T) {
	tests := []struct {
		x    api.Expr
		want []byte
	}{
		{of(get(0), number(1), number(2), op(api.Mul), op(api.Add)), []byte{5, 3, 0, 1, 2, 1, 4, 9, 7}},
		{of(number(0)), []byte{1, 1, 0}},
		{of(number(-1)), []byte{1, 1, 1}},
		{of(number(-65)), []byte{1, 1, 129, 1}},
		{of(number(least)), append([]byte{1, 1}, append(bytes.Repeat([]byte{255}, 9), 1)...)},
		{of(get(0)), []byte{1, 3, 0}},
		{of(get(7)), []byte{1, 3, 7}},
		{of(text("")), []byte{1, 2, 0}},
		{of(text("ab")), []byte{1, 2, 2, 97, 98}},
		{of(text(strings.Repeat("\xff", maxText))), append([]byte{1, 2, 64}, bytes.Repeat([]byte{255}, maxText)...)},
		{of(text("a"), op(api.Len)), []byte{2, 2, 1, 97, 6}},
		{of(text("a"), get(1), op(api.Lt), op(api.Not)), []byte{4, 2, 1, 97, 3, 1, 15, 5}},
		{ends(get(2), 63, op(api.Neg)), append([]byte{64, 3, 2}, bytes.Repeat([]byte{4}, 63)...)},
	}
	for i, c := range twos() {
		tests = append(tests, struct {
			x    api.Expr
			want []byte
		}{of(get(0), get(1), op(c)), []byte{3, 3, 0, 3, 1, byte(7 + i)}})
	}
	for _, x := range tests {
		before := slices.Clone(x.x)
		if b := expr.Bytes(x.x); !bytes.Equal(b, x.want) || !slices.Equal(x.x, before) {
			t.Errorf("%v: %v", before, b)
		}
	}
	for _, x := range slices.Concat(broken(), long()) {
		if b := expr.Bytes(x); len(b) > 0 {
			t.Errorf("%v: %v", x, b)
		}
	}
}

// P3: no two answers share their bytes.
func TestBytesAreNew(t *testing.T) {
	x := of(get(0), number(1), op(api.Add))
	a, b := expr.Bytes(x), expr.Bytes(x)
	clear(a[:cap(a)])
	if want := []byte{3, 3, 0, 1, 2, 7}; !bytes.Equal(b, want) || !bytes.Equal(expr.Bytes(x), want) {
		t.Fatal(b)
	}
}

// P17.3: the document's examples, and each error, ahead of those behind it.
func TestReadErrors(t *testing.T) {
	tests := []struct {
		b []byte
		e api.Errno
	}{
		{nil, api.ErrEnd},
		{[]byte{0}, api.ErrForm},
		{[]byte{0, 3, 0}, api.ErrForm},
		{[]byte{65}, api.ErrForm},
		{append([]byte{65, 3, 0}, bytes.Repeat([]byte{4}, 64)...), api.ErrForm},
		{[]byte{255}, api.ErrForm},
		{[]byte{129, 1, 3, 0}, api.ErrForm}, // a byte, and no number of several
		{[]byte{1}, api.ErrEnd},
		{[]byte{64}, api.ErrEnd},
		{[]byte{1, 21}, api.ErrForm},
		{[]byte{1, 0}, api.ErrForm},
		{[]byte{1, 255}, api.ErrForm},
		{[]byte{2, 3, 0, 21}, api.ErrForm},
		{[]byte{3, 4, 21}, api.ErrForm},
		{[]byte{1, 4}, api.ErrExpr},
		{[]byte{1, 7}, api.ErrExpr},
		{[]byte{2, 4, 21}, api.ErrForm}, // the operations are read ahead of what they make
		{[]byte{2, 4}, api.ErrEnd},
		{[]byte{2, 3, 0}, api.ErrEnd},
		{[]byte{2, 3, 8}, api.ErrEnd},
		{[]byte{2, 3, 8, 21}, api.ErrForm},
		{[]byte{1, 3, 8}, api.ErrExpr},
		{[]byte{1, 3, 255}, api.ErrExpr},
		{[]byte{1, 3}, api.ErrEnd},
		{[]byte{2, 3, 0, 3, 1}, api.ErrExpr},
		{[]byte{2, 3, 0, 7}, api.ErrExpr},
		{[]byte{3, 3, 0, 7, 3}, api.ErrEnd},
		{[]byte{3, 3, 0, 7, 3, 1}, api.ErrExpr},
		{[]byte{1, 1}, api.ErrEnd},
		{[]byte{1, 1, 128}, api.ErrEnd},
		{[]byte{1, 1, 128, 0}, api.ErrForm},
		{[]byte{2, 1, 128, 0, 21}, api.ErrForm},
		{append([]byte{1, 1}, append(bytes.Repeat([]byte{255}, 9), 2)...), api.ErrForm},
		{[]byte{1, 2}, api.ErrEnd},
		{[]byte{1, 2, 1}, api.ErrEnd},
		{[]byte{1, 2, 128, 0}, api.ErrForm},
		{[]byte{1, 2, 64, 1, 2, 3}, api.ErrEnd},
		{append([]byte{1, 2, 65}, make([]byte, 65)...), api.ErrLong},
		{[]byte{1, 2, 65}, api.ErrLong},
		{append([]byte{2, 4, 2, 65}, make([]byte, 65)...), api.ErrLong},
		{append([]byte{64}, slices.Repeat([]byte{3, 0}, 64)...), api.ErrExpr},
	}
	for _, x := range tests {
		if y, e := expr.Read(bin.NewReader(x.b)); len(y) > 0 || e != x.e {
			t.Errorf("%v: %v, error %d, and not %d", x.b, y, e, x.e)
		}
	}
}

// P17.3: a reader that has an error is asked for nothing else.
func TestReadOfFailed(t *testing.T) {
	if x, e := expr.Read(nil); len(x) > 0 || e != api.ErrNil {
		t.Error(x, e)
	}
	r := bin.NewReader([]byte{128, 0, 1, 3, 0})
	r.Num()
	for range 2 {
		if x, e := expr.Read(r); len(x) > 0 || e != api.ErrForm {
			t.Error(x, e)
		}
	}
	r = bin.NewReader([]byte{2, 'a', 'b', 1, 3, 0})
	r.Text(1)
	if x, e := expr.Read(r); len(x) > 0 || e != api.ErrLong {
		t.Error(x, e)
	}
}

// P17.3, P17.4: what was encoded, one behind another, is read again, up to its end.
func TestReadInvertsBytes(t *testing.T) {
	l := mixed(1200)
	var b []byte
	for _, x := range l {
		b = append(b, expr.Bytes(x)...)
	}
	want := slices.Clone(b)
	r := bin.NewReader(append(b, 9))
	for _, x := range l {
		if y, e := expr.Read(r); e != api.OK || !slices.Equal(x, y) {
			t.Fatalf("%v: %v, error %d", x, y, e)
		}
	}
	if r.Left() != 1 || r.Byte() != 9 || r.Err() != api.OK || !bytes.Equal(b, want) {
		t.Fatal(r.Left(), r.Err())
	}
}

// P17.3: of an encoding that is cut short nothing is read, wherever it is cut.
func TestReadOfCutShort(t *testing.T) {
	for _, x := range mixed(130) {
		b := expr.Bytes(x)
		for cut := range len(b) {
			if y, e := expr.Read(bin.NewReader(b[:cut])); len(y) > 0 || e != api.ErrEnd {
				t.Fatalf("%v: %v, error %d", b[:cut], y, e)
			}
		}
	}
}

// P17.3, P17.4: of all short words of bytes, what is read is well formed, and is encoded by the bytes that were read.
func TestReadOfAllShort(t *testing.T) {
	letters := []byte{0, 1, 2, 3, 4, 7, 8, 20, 21, 64, 65, 128, 255}
	found := 0
	var all func(b []byte)
	all = func(b []byte) {
		r := bin.NewReader(b)
		x, e := expr.Read(r)
		switch {
		case e == api.OK && (expr.Form(x) != api.OK || !bytes.Equal(expr.Bytes(x), b[:len(b)-r.Left()])):
			t.Fatalf("%v: %v", b, x)
		case e != api.OK && (len(x) > 0 || !slices.Contains([]api.Errno{api.ErrEnd, api.ErrForm, api.ErrLong, api.ErrExpr}, e)):
			t.Fatalf("%v: %v, error %d", b, x, e)
		case e == api.OK:
			found++
		}
		if len(b) < 5 {
			for _, c := range letters {
				all(append(b[:len(b):len(b)], c))
			}
		}
	}
	all(nil)
	if found == 0 {
		t.Fatal("none is read")
	}
}

// P17.3, P3: what is read has no memory in common with the bytes, nor with what is read again.
func TestReadMemory(t *testing.T) {
	b := []byte{3, 2, 1, 'a', 3, 1, 12}
	x, e := expr.Read(bin.NewReader(b))
	y, f := expr.Read(bin.NewReader(b))
	if e != api.OK || f != api.OK {
		t.Fatal(e, f)
	}
	clear(b)
	for i := range x[:cap(x)] {
		x[:cap(x)][i] = number(-77)
	}
	if !slices.Equal(y, of(text("a"), get(1), op(api.Cat))) {
		t.Fatal(y)
	}
}
