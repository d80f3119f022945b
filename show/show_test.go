package show_test

import (
	"math"
	"slices"
	"strconv"
	"strings"
	"testing"

	"rescind/api"
	"rescind/expr"
	"rescind/lex"
	"rescind/parse"
	"rescind/schema"
	"rescind/show"
)

const (
	most    = math.MaxInt64
	least   = math.MinInt64
	maxCode = 64
	maxText = 64
	maxCols = 8
)

func number(n int) api.Op { return api.Op{Code: api.Num, Num: n} }

func text(s string) api.Op { return api.Op{Code: api.Str, Text: s} }

func get(n int) api.Op { return api.Op{Code: api.Get, Num: n} }

func op(c api.Code) api.Op { return api.Op{Code: c} }

// of is an expression of operations.
func of(l ...api.Op) api.Expr { return l }

// columns is a schema of such names, numbers and texts by turns.
func columns(names ...string) api.Schema {
	var s api.Schema
	for i, name := range names {
		s = append(s, api.Col{Name: name, Kind: api.Number + api.Kind(i%2)})
	}
	return s
}

// noSchemas are lists that are no schemas.
func noSchemas() []api.Schema {
	return []api.Schema{nil, {}, {{}}, {{Name: "a"}}, {{Name: "a", Kind: 3}}, columns("A"), columns("a", "not"), columns("a", "a"), columns("a", "b", "c", "d", "e", "f", "g", "h", "i"), make(api.Schema, 5000)}
}

// noExprs are expressions that are not well formed, and not too long.
func noExprs() []api.Expr {
	a := get(0)
	return []api.Expr{
		nil, {}, of(op(0)), of(op(21)), of(op(-1)), of(op(257)), of(op(least)), of(op(most)), of(op(api.Neg)), of(op(api.Or)), of(a, op(api.Add)), of(a, a), of(a, a, a, op(api.Add)), of(op(api.Len), a), of(op(api.Add), a, a), of(a, op(api.Add), a),
		of(get(maxCols)), of(get(-1)), of(get(least)), of(get(most)), of(text(strings.Repeat("a", maxText+1))), of(api.Op{Code: api.Num, Text: "a"}), of(api.Op{Code: api.Str, Num: 1}), of(api.Op{Code: api.Get, Text: "a"}),
		of(a, api.Op{Code: api.Neg, Num: 1}), of(a, a, api.Op{Code: api.Add, Text: "a"}), of(a, a, op(api.Or), a), of(a, a, op(21)), append(slices.Repeat(of(a), maxCode/2), slices.Repeat(of(op(api.Or)), maxCode/2)...),
	}
}

// long are expressions of too many operations.
func long() []api.Expr {
	return []api.Expr{append(of(get(0)), slices.Repeat(of(op(api.Neg)), maxCode)...), make(api.Expr, maxCode+1), make(api.Expr, 5000), append(slices.Repeat(of(get(7)), 33), slices.Repeat(of(op(api.Or)), 32)...)}
}

// operator is its text, its level, and the levels that its parts have at least.
type operator struct {
	text                 string
	level, first, second int
}

// infix are the operations on two parts, as the document names them.
func infix() map[api.Code]operator {
	return map[api.Code]operator{
		api.Or: {"or", 1, 1, 2}, api.And: {"and", 2, 2, 3},
		api.Eq: {"=", 4, 5, 5}, api.Ne: {"<>", 4, 5, 5}, api.Lt: {"<", 4, 5, 5}, api.Le: {"<=", 4, 5, 5}, api.Gt: {">", 4, 5, 5}, api.Ge: {">=", 4, 5, 5},
		api.Add: {"+", 5, 5, 6}, api.Sub: {"-", 5, 5, 6}, api.Cat: {"++", 5, 5, 6}, api.Mul: {"*", 6, 6, 7}, api.Quo: {"/", 6, 6, 7}, api.Rem: {"%", 6, 6, 7},
	}
}

// prefix are the operations on one part.
func prefix() map[api.Code]operator {
	return map[api.Code]operator{api.Not: {"not", 3, 3, 0}, api.Neg: {"-", 7, 7, 0}, api.Len: {"len", 7, 7, 0}}
}

// note is what a part of an expression is written as, its level, and whether it is a number that is not negative.
type note struct {
	text  string
	level int
	plain bool
}

// at is a note's text at a level: between brackets, if it is of a lower one.
func (n note) at(level int) string {
	if n.level < level {
		return "( " + n.text + " )"
	}
	return n.text
}

// elementNote is an operation without parts, written.
func elementNote(o api.Op, s api.Schema) note {
	switch o.Code {
	case api.Num:
		return note{strings.Replace(strconv.Itoa(o.Num), "-", "- ", 1), 8, o.Num >= 0}
	case api.Get:
		return note{s[o.Num].Name, 8, false}
	}
	var b strings.Builder
	for _, c := range []byte(o.Text) {
		if c < 32 || c > 126 || c == '\'' || c == '\\' {
			b.WriteString("\\" + strconv.FormatInt(int64(c)+256, 16)[1:])
		} else {
			b.WriteByte(c)
		}
	}
	return note{"'" + b.String() + "'", 8, false}
}

// notes writes an expression from its first operation to its last one, as the document says it.
func notes(x api.Expr, s api.Schema) note {
	var l []note
	for _, o := range x {
		top := len(l) - 1
		if one, ok := prefix()[o.Code]; ok {
			part := l[top].at(one.first)
			if o.Code == api.Neg && l[top].plain {
				part = "( " + l[top].text + " )"
			}
			l[top] = note{one.text + " " + part, one.level, false}
		} else if two, ok := infix()[o.Code]; ok {
			l = append(l[:top-1], note{l[top-1].at(two.first) + " " + two.text + " " + l[top].at(two.second), two.level, false})
		} else {
			l = append(l, elementNote(o, s))
		}
	}
	return l[0]
}

// expect fails unless an expression is written so, in text and in tokens, and what is written is parsed as the same expression.
func expect(t *testing.T, x api.Expr, s api.Schema, want string) {
	t.Helper()
	ops, cols := slices.Clone(x), slices.Clone(s)
	got, e := show.Text(x, s)
	if got != want || e != api.OK {
		t.Fatalf("%v: %s, error %d, and not %s", x, got, e, want)
	}
	tokens, e := show.Tokens(x, s)
	wanted, bad := lex.Split(want)
	if !slices.Equal(tokens, wanted) || e != api.OK || bad != api.OK {
		t.Fatalf("%v: %v, error %d, and not %v, error %d", x, tokens, e, wanted, bad)
	}
	if !slices.Equal(x, ops) || !slices.Equal(s, cols) {
		t.Fatal("changed", x, s)
	}
	if y, e := parse.Expr(got, s); !slices.Equal(x, y) || e != api.OK {
		t.Fatalf("%s: %v, error %d, and not %v", got, y, e, x)
	}
	if y, n, e := parse.Begin(tokens, s); !slices.Equal(x, y) || n != len(tokens) || e != api.OK {
		t.Fatalf("%v: %v, %d, error %d, and not %v", tokens, y, n, e, x)
	}
}

// refuse fails unless an expression is not written, for that error.
func refuse(t *testing.T, x api.Expr, s api.Schema, want api.Errno) {
	t.Helper()
	if got, e := show.Text(x, s); got != "" || e != want {
		t.Fatal(x, s, got, e, want)
	}
	if l, e := show.Tokens(x, s); len(l) > 0 || e != want {
		t.Fatal(x, s, l, e, want)
	}
}

// P21.1, P21.2: the document's examples.
func TestExamples(t *testing.T) {
	s := columns("a", "b")
	a, n := get(0), number
	if show.Level(of(a)) != 8 || show.Level(of(a, a, op(api.Or))) != 1 {
		t.Fatal("level")
	}
	l, e := show.Tokens(of(n(-5)), s)
	if !slices.Equal(l, []lex.Token{{Kind: lex.Sign, Text: "-"}, {Kind: lex.Digits, Text: "5"}}) || e != api.OK {
		t.Fatal(l, e)
	}
	expect(t, of(a, n(1), op(api.Add), n(2), op(api.Mul)), s, "( a + 1 ) * 2")
	expect(t, of(n(5), op(api.Neg)), s, "- ( 5 )")
	expect(t, of(n(-5), op(api.Neg)), s, "- - 5")
	expect(t, of(a, n(1), n(2), op(api.Sub), op(api.Sub)), s, "a - ( 1 - 2 )")
	expect(t, of(a, n(1), n(2), op(api.Mul), op(api.Add)), s, "a + 1 * 2")
}

// P21.1: the level is that of the last operation, whatever is ahead of it.
func TestLevel(t *testing.T) {
	parts := []api.Expr{of(get(0)), of(number(5)), of(text("a")), of(get(7), op(api.Not)), of(get(1), get(2), op(api.Or)), of(text("a"), op(api.Neg)), of(number(1), text("a"), op(api.Mul))}
	is := func(x api.Expr, want int) {
		t.Helper()
		if got := show.Level(x); got != want {
			t.Errorf("%v: %d, and not %d", x, got, want)
		}
	}
	for _, x := range parts[:3] {
		is(x, 8)
	}
	for _, first := range parts {
		for c, o := range prefix() {
			is(append(slices.Clone(first), op(c)), o.level)
		}
		for _, second := range parts {
			for c, o := range infix() {
				is(append(slices.Concat(first, second), op(c)), o.level)
			}
		}
	}
	is(append(of(get(0)), slices.Repeat(of(op(api.Not)), maxCode-1)...), 3)
	for _, x := range append(noExprs(), long()...) {
		is(x, 0)
	}
}

// P21.1: what has no parts.
func TestElements(t *testing.T) {
	names := []string{"a", "b", "ands", "nota", "or1", "le", "abcdefghijklmnop", "sum"}
	s := columns(names...)
	for i, name := range names {
		expect(t, of(get(i)), s, name)
	}
	expect(t, of(get(0)), columns("b", "a"), "b")
	for n, want := range map[int]string{0: "0", 1: "1", -1: "- 1", 10: "10", -10: "- 10", most: "9223372036854775807", -most: "- 9223372036854775807", least: "- 9223372036854775808"} {
		expect(t, of(number(n)), s, want)
	}
	for quoted, want := range map[string]string{"": "''", "a": "'a'", "a b": "'a b'", "  ": "'  '", "it's": "'it\\27s'", "\\": "'\\5c'", "\x00\x1f\x7f\xff": "'\\00\\1f\\7f\\ff'", " ~": "' ~'", "é": "'\\c3\\a9'", "( 1 )": "'( 1 )'", "not a": "'not a'", "-5": "'-5'"} {
		expect(t, of(text(quoted)), s, want)
	}
	expect(t, of(text(strings.Repeat("x", maxText))), s, "'"+strings.Repeat("x", maxText)+"'")
	expect(t, of(text(strings.Repeat("'", maxText))), s, "'"+strings.Repeat("\\27", maxText)+"'")
}

// P21.1: the kinds of all tokens.
func TestKinds(t *testing.T) {
	s := columns("a", "b")
	tests := []struct {
		x    api.Expr
		want []lex.Token
	}{
		{of(get(1)), []lex.Token{{Kind: lex.Name, Text: "b"}}},
		{of(number(7)), []lex.Token{{Kind: lex.Digits, Text: "7"}}},
		{of(text("7")), []lex.Token{{Kind: lex.Quote, Text: "'7'"}}},
		{of(get(0), op(api.Neg)), []lex.Token{{Kind: lex.Sign, Text: "-"}, {Kind: lex.Name, Text: "a"}}},
		{of(get(0), op(api.Len)), []lex.Token{{Kind: lex.Name, Text: "len"}, {Kind: lex.Name, Text: "a"}}},
		{of(get(0), op(api.Not)), []lex.Token{{Kind: lex.Name, Text: "not"}, {Kind: lex.Name, Text: "a"}}},
		{of(number(0), op(api.Neg)), []lex.Token{{Kind: lex.Sign, Text: "-"}, {Kind: lex.Sign, Text: "("}, {Kind: lex.Digits, Text: "0"}, {Kind: lex.Sign, Text: ")"}}},
	}
	for c, o := range infix() {
		kind := lex.Sign
		if o.level < 3 {
			kind = lex.Name
		}
		tests = append(tests, struct {
			x    api.Expr
			want []lex.Token
		}{of(get(0), get(1), op(c)), []lex.Token{{Kind: lex.Name, Text: "a"}, {Kind: kind, Text: o.text}, {Kind: lex.Name, Text: "b"}}})
	}
	for _, x := range tests {
		if l, e := show.Tokens(x.x, s); !slices.Equal(l, x.want) || e != api.OK {
			t.Error(x.x, l, e, x.want)
		}
	}
}

// P21.1, P21.2: each operator within each other one, on both sides: brackets where the level is too low, and nowhere else.
func TestOperators(t *testing.T) {
	s := columns("a", "b", "c")
	a, b, c := get(0), get(1), get(2)
	bracketed := func(text string, is bool) string {
		if is {
			return "( " + text + " )"
		}
		return text
	}
	for outer, o := range infix() {
		for inner, i := range infix() {
			expect(t, of(a, b, op(inner), c, op(outer)), s, bracketed("a "+i.text+" b", i.level < o.first)+" "+o.text+" c")
			expect(t, of(a, b, c, op(inner), op(outer)), s, "a "+o.text+" "+bracketed("b "+i.text+" c", i.level < o.second))
		}
		for inner, i := range prefix() {
			expect(t, of(a, op(inner), b, op(outer)), s, bracketed(i.text+" a", i.level < o.first)+" "+o.text+" b")
			expect(t, of(a, b, op(inner), op(outer)), s, "a "+o.text+" "+bracketed(i.text+" b", i.level < o.second))
			expect(t, of(a, b, op(outer), op(inner)), s, i.text+" "+bracketed("a "+o.text+" b", o.level < i.first))
		}
		expect(t, of(number(-5), number(-6), op(outer)), s, "- 5 "+o.text+" - 6")
		expect(t, of(number(5), text("b"), op(outer)), s, "5 "+o.text+" 'b'")
	}
	for outer, o := range prefix() {
		for inner, i := range prefix() {
			expect(t, of(a, op(inner), op(outer)), s, o.text+" "+bracketed(i.text+" a", i.level < o.first))
		}
		expect(t, of(number(-5), op(outer)), s, o.text+" - 5")
		expect(t, of(text("5"), op(outer)), s, o.text+" '5'")
		expect(t, of(a, op(outer)), s, o.text+" a")
	}
}

// P21.1, P21.2: of all numbers that a "-" may stand ahead of, those that are not negative have brackets; they have none elsewhere.
func TestNegatives(t *testing.T) {
	s := columns("a")
	neg := op(api.Neg)
	expect(t, of(number(0), neg), s, "- ( 0 )")
	expect(t, of(number(-1), neg), s, "- - 1")
	expect(t, of(number(most), neg), s, "- ( 9223372036854775807 )")
	expect(t, of(number(least), neg), s, "- - 9223372036854775808")
	expect(t, of(number(5), neg, neg), s, "- - ( 5 )")
	expect(t, of(number(-5), neg, neg), s, "- - - 5")
	expect(t, of(number(5), op(api.Len)), s, "len 5")
	expect(t, of(number(5), op(api.Not)), s, "not 5")
	expect(t, of(number(5), op(api.Len), neg), s, "- len 5")
	expect(t, of(number(5), number(6), op(api.Mul), neg), s, "- ( 5 * 6 )")
	expect(t, of(number(5), neg, number(6), op(api.Mul)), s, "- ( 5 ) * 6")
	expect(t, of(number(-5), number(6), op(api.Mul)), s, "- 5 * 6")
	expect(t, of(get(0), number(-5), op(api.Sub)), s, "a - - 5")
	expect(t, of(get(0), number(5), op(api.Sub)), s, "a - 5")
	expect(t, of(get(0), number(5), neg, op(api.Sub)), s, "a - - ( 5 )")
}

// P21.1: what is wrong with the expression ahead of what is wrong with the schema, and that ahead of a column that is not there. Kinds are not looked at.
func TestErrors(t *testing.T) {
	s := columns("a", "b")
	for _, x := range noExprs() {
		for _, none := range append(noSchemas(), s) {
			refuse(t, x, none, api.ErrExpr)
		}
	}
	for _, x := range long() {
		for _, none := range append(noSchemas(), s) {
			refuse(t, x, none, api.ErrLong)
		}
	}
	for _, none := range noSchemas() {
		for _, x := range []api.Expr{of(get(0)), of(get(7)), of(number(1)), of(text("a"), op(api.Neg)), of(get(2), get(0), op(api.Or))} {
			refuse(t, x, none, api.ErrSchema)
		}
	}
	for _, x := range []api.Expr{of(get(2)), of(get(7)), of(get(0), get(2), op(api.Or)), of(get(2), get(0), op(api.Or)), of(get(0), op(api.Len), get(2), op(api.Cat)), of(get(0), get(1), op(api.Add), get(0), get(3), op(api.Eq), op(api.And)), append(of(get(2)), slices.Repeat(of(op(api.Len)), maxCode-1)...)} {
		refuse(t, x, s, api.ErrRange)
	}
	refuse(t, of(get(1)), s[:1], api.ErrRange)
	names := []string{"a", "b", "c", "d", "e", "f", "g", "h"}
	for i := range names {
		for n := 1; n <= len(names); n++ {
			if i < n {
				expect(t, of(get(i)), columns(names[:n]...), names[i])
			} else {
				refuse(t, of(get(i)), columns(names[:n]...), api.ErrRange)
			}
		}
	}
	x := of(get(0), op(api.Len), get(1), op(api.Neg), op(api.Cat), text("a"), op(api.Lt))
	if _, e := expr.Check(x, s); e != api.ErrKind {
		t.Fatal(e)
	}
	expect(t, x, s, "len a ++ - b < 'a'")
}

// P21.1, P21.2: as many operations and as deep as an expression may have.
func TestLongest(t *testing.T) {
	s := columns("a", "b", "c", "d", "e", "f", "g", "h")
	for c, o := range prefix() {
		expect(t, append(of(get(7)), slices.Repeat(of(op(c)), maxCode-1)...), s, strings.Repeat(o.text+" ", maxCode-1)+"h")
	}
	pair := of(op(api.Not), op(api.Neg))
	expect(t, append(of(get(0)), slices.Repeat(pair, 31)...), s, strings.Repeat("- ( not ", 31)+"a"+strings.Repeat(" )", 31))
	for c, o := range infix() {
		first := append(of(get(0)), slices.Repeat(of(get(1), op(c)), 31)...)
		second := append(slices.Repeat(of(get(1)), 32), slices.Repeat(of(op(c)), 31)...)
		if o.level == 4 {
			expect(t, first, s, strings.Repeat("( ", 30)+"a "+strings.Repeat(o.text+" b ) ", 30)+o.text+" b")
		} else {
			expect(t, first, s, "a"+strings.Repeat(" "+o.text+" b", 31))
		}
		expect(t, second, s, strings.Repeat("b "+o.text+" ( ", 30)+"b "+o.text+" b"+strings.Repeat(" )", 30))
	}
}

// P21.1, P21.2: all expressions of up to five operations of a few, held against the definition.
func TestAllShort(t *testing.T) {
	s := columns("a")
	alphabet := of(get(0), number(1), number(-1), op(api.Neg), op(api.Not), op(api.Len), op(api.Or), op(api.And), op(api.Lt), op(api.Cat), op(api.Rem))
	seen := 0
	var grow func(x api.Expr, results int)
	grow = func(x api.Expr, results int) {
		if results == 1 {
			seen++
			expect(t, x, s, notes(x, s).text)
			if got, want := show.Level(x), notes(x, s).level; got != want {
				t.Fatal(x, got, want)
			}
		}
		for _, o := range alphabet {
			left := results + 1 - expr.Takes(o.Code)
			if len(x) < 5 && left > 0 && expr.Takes(o.Code) <= results {
				grow(append(slices.Clone(x), o), left)
			}
		}
	}
	grow(nil, 0)
	if seen < 1000 {
		t.Fatal("too few:", seen)
	}
}

// dice are numbers without a pattern, the same each time.
type dice uint64

func (d *dice) roll(n int) int {
	*d = *d*6364136223846793005 + 1442695040888963407
	return int(uint64(*d)>>33) % n
}

// expr is a well-formed expression of up to so many operations, of whatever kinds.
func (d *dice) expr(upTo, cols int) api.Expr {
	switch form := d.roll(8); {
	case upTo >= 3 && form > 2:
		first := d.expr(upTo-2, cols)
		second := d.expr(upTo-1-len(first), cols)
		return slices.Concat(first, second, of(op(api.Add+api.Code(d.roll(14)))))
	case upTo >= 2 && form > 0:
		return append(d.expr(upTo-1, cols), op(api.Neg+api.Code(d.roll(3))))
	}
	switch d.roll(3) {
	case 0:
		return of(number([]int{0, 1, -1, 63, -64, 1 << 40, least, most}[d.roll(8)]))
	case 1:
		return of(text([]string{"", "a", "it's", " and \\", "\x00\xff", strings.Repeat("x", maxText)}[d.roll(6)]))
	}
	return of(get(d.roll(cols)))
}

// P21.1, P21.2: expressions of any size, held against the definition.
func TestMixed(t *testing.T) {
	s := columns("a", "b", "c3", "d", "e", "f", "g", "abcdefghijklmnop")
	d := dice(211)
	for i := range 20000 {
		cols := 1 + d.roll(len(s))
		x := d.expr(1+i%maxCode, cols)
		want := notes(x, s)
		expect(t, x, s[:cols], want.text)
		if got := show.Level(x); got != want.level {
			t.Fatal(x, got, want.level)
		}
	}
}

// P1: any operations and any columns are answered; what is written is written of an expression and a schema.
func TestAnything(t *testing.T) {
	d := dice(212)
	words := of(get(0), get(1), get(7), get(8), get(-1), number(0), number(-1), text("a"), text(strings.Repeat("a", 65)), op(0), op(21), op(-1), op(api.Neg), op(api.Not), op(api.Or), op(api.Add), op(api.Eq), api.Op{Code: api.Neg, Num: 1})
	schemas := append(noSchemas(), columns("a"), columns("b", "a"), columns("a", "b", "c", "d", "e", "f", "g", "h"))
	shown := 0
	for range 50000 {
		var x api.Expr
		for range d.roll(6) {
			x = append(x, words[d.roll(len(words))])
		}
		s := schemas[d.roll(len(schemas))]
		want := expr.Form(x)
		switch {
		case want != api.OK:
		case !schema.May(s):
			want = api.ErrSchema
		case slices.ContainsFunc(x, func(o api.Op) bool { return o.Code == api.Get && o.Num >= len(s) }):
			want = api.ErrRange
		default:
			shown++
			expect(t, x, s, notes(x, s).text)
			continue
		}
		refuse(t, x, s, want)
	}
	if shown < 100 {
		t.Fatal("too few:", shown)
	}
}

// P3: tokens belong to who asked for them; the expression and the columns stay as they are, what is behind them too.
func TestNew(t *testing.T) {
	x := of(get(0), number(1), op(api.Add), number(-2), op(api.Mul), get(9), get(9))
	s := columns("a", "b", "c")
	ops, cols := slices.Clone(x), slices.Clone(s)
	l, _ := show.Tokens(x[:5], s[:1])
	other, _ := show.Tokens(x[:5], s[:1])
	whole := l[:cap(l)]
	for i := range whole {
		whole[i] = lex.Token{Kind: 9, Text: "!"}
	}
	if !slices.Equal(x, ops) || !slices.Equal(s, cols) {
		t.Fatal(x, s)
	}
	clear(x)
	clear(s)
	if got := lex.Join(other...); got != "( a + 1 ) * - 2" {
		t.Fatal(got)
	}
}
