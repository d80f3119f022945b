package parse_test

import (
	"math"
	"slices"
	"strings"
	"testing"

	"rescind/api"
	"rescind/expr"
	"rescind/lex"
	"rescind/num"
	"rescind/parse"
	"rescind/value"
)

const (
	most     = math.MaxInt64
	least    = math.MinInt64
	maxCode  = 64
	maxDepth = 128
)

func number(n int) api.Op { return api.Op{Code: api.Num, Num: n} }

func text(s string) api.Op { return api.Op{Code: api.Str, Text: s} }

func get(n int) api.Op { return api.Op{Code: api.Get, Num: n} }

func op(c api.Code) api.Op { return api.Op{Code: c} }

// of is an expression of operations.
func of(l ...api.Op) api.Expr { return l }

// columns is a schema of such names, numbers and texts by turns.
func columns(names ...string) api.Schema {
	var s api.Schema
	for i, name := range names {
		s = append(s, api.Col{Name: name, Kind: api.Number + api.Kind(i%2)})
	}
	return s
}

// noSchemas are lists that are no schemas.
func noSchemas() []api.Schema {
	return []api.Schema{nil, {}, {{}}, {{Name: "a"}}, {{Name: "a", Kind: 3}}, columns("A"), columns("a", "not"), columns("a", "a"), columns("a", "b", "c", "d", "e", "f", "g", "h", "i"), make(api.Schema, 5000)}
}

// split are a text's tokens.
func split(t *testing.T, s string) []lex.Token {
	t.Helper()
	l, e := lex.Split(s)
	if e != api.OK {
		t.Fatal(s, e)
	}
	return l
}

// expect fails unless a text is that expression, or gives that error.
func expect(t *testing.T, s string, c api.Schema, want api.Expr, failed api.Errno) {
	t.Helper()
	if x, e := parse.Expr(s, c); e != failed || !slices.Equal(x, want) {
		t.Fatalf("%s: %v, error %d, and not %v, error %d", s, x, e, want, failed)
	}
	l, e := lex.Split(s)
	if e != api.OK || len(c) == 0 {
		return
	}
	count := len(l)
	if failed != api.OK {
		count = 0
	}
	x, n, e := parse.Begin(l, c)
	if failed == api.ErrForm && e == api.OK && n > 0 && n < len(l) { // it stops ahead of the end
		return
	}
	if e != failed || n != count || !slices.Equal(x, want) {
		t.Fatalf("%s begins with %v, %d tokens, error %d, and not with %v, error %d", s, x, n, e, want, failed)
	}
}

// P20.2, P20.3: the document's examples.
func TestExamples(t *testing.T) {
	s := columns("a", "b")
	a, n := get(0), number
	expect(t, "a + 1 * 2", s, of(a, n(1), n(2), op(api.Mul), op(api.Add)), api.OK)
	expect(t, "(a + 1) * 2", s, of(a, n(1), op(api.Add), n(2), op(api.Mul)), api.OK)
	expect(t, "- 5", s, of(n(-5)), api.OK)
	expect(t, "-5", s, of(n(-5)), api.OK)
	expect(t, "-(5)", s, of(n(5), op(api.Neg)), api.OK)
	expect(t, "a - -5", s, of(a, n(-5), op(api.Sub)), api.OK)
	expect(t, "a = 1 = 1", s, nil, api.ErrForm)
	expect(t, "a + not a", s, nil, api.ErrForm)
	expect(t, "(a", s, nil, api.ErrEnd)
	x, count, e := parse.Begin(split(t, "a + 1 , b"), s)
	if e != api.OK || count != 3 || !slices.Equal(x, of(a, n(1), op(api.Add))) {
		t.Fatal(x, count, e)
	}
}

// binary are the operators between two elements, their levels and codes, as the document names them.
var binary = map[string]struct {
	level int
	code  api.Code
}{
	"or": {1, api.Or}, "and": {2, api.And},
	"=": {4, api.Eq}, "<>": {4, api.Ne}, "<": {4, api.Lt}, "<=": {4, api.Le}, ">": {4, api.Gt}, ">=": {4, api.Ge},
	"+": {5, api.Add}, "-": {5, api.Sub}, "++": {5, api.Cat}, "*": {6, api.Mul}, "/": {6, api.Quo}, "%": {6, api.Rem},
}

// P20.1: each operator, and each two of them: of one level the first ahead of the second, comparisons but once; of two levels the higher one ahead.
func TestOperators(t *testing.T) {
	s := columns("a", "b", "c")
	a, b, c := get(0), get(1), get(2)
	for text, first := range binary {
		expect(t, "a "+text+" b", s, of(a, b, op(first.code)), api.OK)
		for other, second := range binary {
			both := "a " + text + " b " + other + " c"
			switch {
			case first.level == 4 && second.level == 4:
				expect(t, both, s, nil, api.ErrForm)
			case first.level < second.level:
				expect(t, both, s, of(a, b, c, op(second.code), op(first.code)), api.OK)
			default:
				expect(t, both, s, of(a, b, op(first.code), c, op(second.code)), api.OK)
			}
			expect(t, "(a "+text+" b) "+other+" c", s, of(a, b, op(first.code), c, op(second.code)), api.OK)
			expect(t, "a "+text+" (b "+other+" c)", s, of(a, b, c, op(second.code), op(first.code)), api.OK)
		}
	}
}

// P20.1: what stands ahead of one operand, and how far that goes.
func TestPrefixes(t *testing.T) {
	s := columns("a", "b", "c")
	a, b := get(0), get(1)
	not, neg, length := op(api.Not), op(api.Neg), op(api.Len)
	expect(t, "not a", s, of(a, not), api.OK)
	expect(t, "not not a", s, of(a, not, not), api.OK)
	expect(t, "-a", s, of(a, neg), api.OK)
	expect(t, "--a", s, of(a, neg, neg), api.OK)
	expect(t, "len a", s, of(a, length), api.OK)
	expect(t, "len len a", s, of(a, length, length), api.OK)
	expect(t, "-len-a", s, of(a, neg, length, neg), api.OK)
	expect(t, "len -5", s, of(number(-5), length), api.OK)
	expect(t, "not -5", s, of(number(-5), not), api.OK)
	expect(t, "- -5", s, of(number(-5), neg), api.OK)
	expect(t, "--5", s, of(number(-5), neg), api.OK)
	expect(t, "-'5'", s, of(text("5"), neg), api.OK)
	expect(t, "not(not(a))", s, of(a, not, not), api.OK)
	expect(t, "a or not b", s, of(a, b, not, op(api.Or)), api.OK)
	expect(t, "a and not b", s, of(a, b, not, op(api.And)), api.OK)
	expect(t, "a*-b", s, of(a, b, neg, op(api.Mul)), api.OK)
	expect(t, "a*-5", s, of(a, number(-5), op(api.Mul)), api.OK)
	expect(t, "a=-5", s, of(a, number(-5), op(api.Eq)), api.OK)
	expect(t, "-5-5", s, of(number(-5), number(5), op(api.Sub)), api.OK)
	expect(t, "-5*2", s, of(number(-5), number(2), op(api.Mul)), api.OK)
	expect(t, "a+(not b)", s, of(a, b, not, op(api.Add)), api.OK)
	for text, o := range binary {
		expect(t, "-a "+text+" b", s, of(a, neg, b, op(o.code)), api.OK)
		expect(t, "len a "+text+" len b", s, of(a, length, b, length, op(o.code)), api.OK)
		if o.level < 3 {
			expect(t, "not a "+text+" not b", s, of(a, not, b, not, op(o.code)), api.OK)
		} else {
			expect(t, "not a "+text+" b", s, of(a, b, op(o.code), not), api.OK)
			expect(t, "a "+text+" not b", s, nil, api.ErrForm)
		}
	}
	for _, wrong := range []string{"-not a", "len not a", "a = not b", "- - not a", "not a = not b", "not -not a"} {
		expect(t, wrong, s, nil, api.ErrForm)
	}
}

// P20.1: a "-" behind an element is an operator, whatever follows; one where an element must begin belongs to the digits behind it.
func TestNumbers(t *testing.T) {
	s := columns("a")
	a := get(0)
	tests := []struct {
		s string
		x api.Expr
		e api.Errno
	}{
		{"0", of(number(0)), api.OK},
		{"9223372036854775807", of(number(most)), api.OK},
		{"-9223372036854775808", of(number(least)), api.OK},
		{"- 9223372036854775808", of(number(least)), api.OK},
		{"9223372036854775808", nil, api.ErrOver},
		{"-9223372036854775809", nil, api.ErrOver},
		{"a - 9223372036854775808", nil, api.ErrOver},
		{"a - -9223372036854775808", of(a, number(least), op(api.Sub)), api.OK},
		{"-(9223372036854775808)", nil, api.ErrOver},
		{strings.Repeat("9", 500), nil, api.ErrOver},
		{"007", nil, api.ErrForm},
		{"00", nil, api.ErrForm},
		{"-0", nil, api.ErrForm},
		{"- 0", nil, api.ErrForm},
		{"-007", nil, api.ErrForm},
		{"- -0", nil, api.ErrForm},
		{"a - 0", of(a, number(0), op(api.Sub)), api.OK},
		{"a-0", of(a, number(0), op(api.Sub)), api.OK},
		{"a - 007", nil, api.ErrForm},
		{"a--0", nil, api.ErrForm},
		{"-(0)", of(number(0), op(api.Neg)), api.OK},
		{"0" + strings.Repeat("9", 500), nil, api.ErrForm},
		{"a -5", of(a, number(5), op(api.Sub)), api.OK},
		{"a-5", of(a, number(5), op(api.Sub)), api.OK},
		{"(a)-5", of(a, number(5), op(api.Sub)), api.OK},
		{"5-5", of(number(5), number(5), op(api.Sub)), api.OK},
		{"'5'-5", of(text("5"), number(5), op(api.Sub)), api.OK},
		{"a---5", of(a, number(-5), op(api.Neg), op(api.Sub)), api.OK},
	}
	for _, x := range tests {
		expect(t, x.s, s, x.x, x.e)
	}
}

// P20.1: quotes are read as values are written.
func TestTexts(t *testing.T) {
	s := columns("a")
	long := strings.Repeat("x", 64)
	tests := []struct {
		s string
		x api.Expr
		e api.Errno
	}{
		{"''", of(text("")), api.OK},
		{"'a'", of(text("a")), api.OK},
		{"'  and '", of(text("  and ")), api.OK},
		{"'it\\27s'", of(text("it's")), api.OK},
		{"'\\00\\ff\\5c'", of(text("\x00\xff\\")), api.OK},
		{"'" + long + "'", of(text(long)), api.OK},
		{"'" + strings.Repeat("\\0a", 64) + "'", of(text(strings.Repeat("\n", 64))), api.OK},
		{"'" + long + "x'", nil, api.ErrLong},
		{"'" + strings.Repeat("\\0a", 65) + "'", nil, api.ErrLong},
		{"'" + strings.Repeat("x", 5000) + "'", nil, api.ErrLong},
		{"'\\61'", nil, api.ErrForm},
		{"'\\0A'", nil, api.ErrForm},
		{"'\\2'", nil, api.ErrForm},
		{"'\\'", nil, api.ErrForm},
		{"'\n'", nil, api.ErrForm},
		{"'é'", nil, api.ErrForm},
		{"'\x7f'", nil, api.ErrForm},
		{"'" + long + "x\\61'", nil, api.ErrForm},
		{"a = '\\61'", nil, api.ErrForm},
		{"'a' 'b'", nil, api.ErrForm},
		{"'a'++'b'", of(text("a"), text("b"), op(api.Cat)), api.OK},
		{"a '" + long + "x'", nil, api.ErrForm}, // it is not come to
		{"a + '" + long + "x'", nil, api.ErrLong},
	}
	for _, x := range tests {
		expect(t, x.s, s, x.x, x.e)
	}
}

// P20.1, P20.3: a name stands for its column, and for nothing else.
func TestColumns(t *testing.T) {
	names := []string{"a", "b", "ands", "nota", "or1", "le", "abcdefghijklmnop", "sum"}
	s := columns(names...)
	for i, name := range names {
		expect(t, name, s, of(get(i)), api.OK)
		expect(t, "("+name+")", s, of(get(i)), api.OK)
		expect(t, "1+"+name, s, of(number(1), get(i), op(api.Add)), api.OK)
		expect(t, name, columns("x"), nil, api.ErrNone)
	}
	for _, name := range []string{"c", "aa", "abcdefghijklmno", "abcdefghijklmnopq", "xor", "notb", "len1", "and0", "true", "as", "by", strings.Repeat("a", 5000)} {
		expect(t, name, s, nil, api.ErrNone)
		expect(t, "a+"+name, s, nil, api.ErrNone)
		expect(t, "not -len("+name, s, nil, api.ErrNone)
		expect(t, name+" !", s, nil, api.ErrWord)
	}
	expect(t, "b", columns("b", "a"), of(get(0)), api.OK)
	expect(t, "len b ++ 1 + 'x' and - b", s, of(get(1), op(api.Len), number(1), op(api.Cat), text("x"), op(api.Add), get(1), op(api.Neg), op(api.And)), api.OK) // kinds are not looked at
}

// P20.1: where an element must begin, or a ")" follow, the first token that cannot be parsed tells the error.
func TestErrors(t *testing.T) {
	s := columns("a")
	tests := []struct {
		s string
		e api.Errno
	}{
		{"", api.ErrEnd}, {" ", api.ErrEnd}, {"a +", api.ErrEnd}, {"a or", api.ErrEnd}, {"a and", api.ErrEnd}, {"a =", api.ErrEnd}, {"a *", api.ErrEnd}, {"a -", api.ErrEnd}, {"-", api.ErrEnd}, {"not", api.ErrEnd}, {"len", api.ErrEnd}, {"- -", api.ErrEnd},
		{"(", api.ErrEnd}, {"(a", api.ErrEnd}, {"((a)", api.ErrEnd}, {"(a +", api.ErrEnd}, {"(a + 1", api.ErrEnd}, {"not (", api.ErrEnd}, {"a - (-", api.ErrEnd},
		{")", api.ErrForm}, {"()", api.ErrForm}, {"(a))", api.ErrForm}, {"a)", api.ErrForm}, {"(a a", api.ErrForm}, {"(a,", api.ErrForm}, {"(a 1)", api.ErrForm}, {"(a = 1 = 1)", api.ErrForm}, {"(a not a)", api.ErrForm}, {"(a (a))", api.ErrForm}, {"(a 'b'", api.ErrForm},
		{"a a", api.ErrForm}, {"a 1", api.ErrForm}, {"1 a", api.ErrForm}, {"a (a)", api.ErrForm}, {"a not a", api.ErrForm}, {"a len a", api.ErrForm}, {"a ,", api.ErrForm}, {"- 5 5", api.ErrForm}, {"a <= 1 > 1", api.ErrForm},
		{"and", api.ErrForm}, {"or", api.ErrForm}, {",", api.ErrForm}, {"+", api.ErrForm}, {"++", api.ErrForm}, {"*", api.ErrForm}, {"=", api.ErrForm}, {"<>", api.ErrForm}, {"%", api.ErrForm}, {"+5", api.ErrForm}, {"a + + a", api.ErrForm}, {"a * / a", api.ErrForm}, {"a = = 1", api.ErrForm},
		{"a or or a", api.ErrForm}, {"not and", api.ErrForm}, {"len or", api.ErrForm}, {"- and", api.ErrForm}, {"- )", api.ErrForm}, {"(a + ) c", api.ErrForm}, {"a + ,", api.ErrForm}, {"not ,", api.ErrForm},
		{"c", api.ErrNone}, {"c +", api.ErrNone}, {"c )", api.ErrNone}, {"(c", api.ErrNone}, {"a + c + and", api.ErrNone}, {"and c", api.ErrForm}, {"a c", api.ErrForm}, {"(a c", api.ErrForm}, {"007 c", api.ErrForm}, {"c 007", api.ErrNone}, {"c + 9223372036854775808", api.ErrNone}, {"9223372036854775808 + c", api.ErrOver},
		{"(1 + c", api.ErrNone}, {"- 007 + c", api.ErrForm}, {"'\\61' + c", api.ErrForm}, {"a = 1 = c", api.ErrForm}, {"(a", api.ErrEnd},
	}
	for _, x := range tests {
		expect(t, x.s, s, nil, x.e)
	}
}

// P20.2: what is wrong with the schema, with the tokens, with the expression, with the rest.
func TestExprErrors(t *testing.T) {
	s := columns("a")
	for _, none := range noSchemas() {
		for _, text := range []string{"a", "", "!", "'", "a a", "(", "c", strings.Repeat("(", 200), strings.Repeat("a+", 100) + "a"} {
			if x, e := parse.Expr(text, none); len(x) > 0 || e != api.ErrSchema {
				t.Fatal(text, none, x, e)
			}
		}
	}
	long := strings.Repeat("a+", 100) + "a"
	deep := strings.Repeat("(", 200)
	tests := []struct {
		s string
		e api.Errno
	}{
		{"!", api.ErrWord}, {"a !", api.ErrWord}, {"A", api.ErrWord}, {"c !", api.ErrWord}, {") !", api.ErrWord}, {"'", api.ErrEnd}, {"a = 'b", api.ErrEnd}, {"c 'b", api.ErrEnd}, {"! 'b", api.ErrWord}, {"'! b", api.ErrEnd},
		{"a a !", api.ErrWord}, {long + " !", api.ErrWord}, {deep + "!", api.ErrWord}, {long, api.ErrLong}, {long + " a", api.ErrLong}, {long + ")", api.ErrLong}, {"a a " + long, api.ErrForm}, {"a " + deep, api.ErrForm},
	}
	for _, x := range tests {
		if got, e := parse.Expr(x.s, s); len(got) > 0 || e != x.e {
			t.Fatal(x.s, got, e)
		}
	}
}

// noTokens are some that are not valid.
func noTokens() []lex.Token {
	return []lex.Token{
		{}, {Text: "a"}, {Kind: lex.Name}, {Kind: 9, Text: "a"}, {Kind: -1, Text: "a"}, {Kind: lex.Name, Text: "A"}, {Kind: lex.Name, Text: "1"}, {Kind: lex.Name, Text: "("}, {Kind: lex.Digits, Text: "-5"}, {Kind: lex.Digits, Text: "a"}, {Kind: lex.Quote, Text: "'"}, {Kind: lex.Quote, Text: "a"},
		{Kind: lex.Sign, Text: "not"}, {Kind: lex.Sign, Text: "=="}, {Kind: lex.Sign, Text: ""}, {Kind: least, Text: "("}, {Kind: most, Text: ")"}, {Kind: lex.Name, Text: "a "},
	}
}

// P20.1: what is wrong with the schema ahead of what is wrong with a token, wherever it stands, and that ahead of all else.
func TestBeginErrors(t *testing.T) {
	s := columns("a")
	ahead := [][]lex.Token{nil, split(t, "a"), split(t, "a +"), split(t, "a ,"), split(t, ")"), split(t, "c"), split(t, strings.Repeat("(", 200)), split(t, strings.Repeat("a+", 100)+"a")}
	for _, bad := range noTokens() {
		for _, l := range ahead {
			l = append(slices.Clone(l), bad)
			for _, tokens := range [][]lex.Token{l, append(slices.Clone(l), split(t, "a")...)} {
				if x, n, e := parse.Begin(tokens, s); len(x) > 0 || n != 0 || e != api.ErrArg {
					t.Fatal(tokens, x, n, e)
				}
				for _, none := range noSchemas() {
					if x, n, e := parse.Begin(tokens, none); len(x) > 0 || n != 0 || e != api.ErrSchema {
						t.Fatal(tokens, x, n, e)
					}
				}
			}
		}
	}
	for _, l := range ahead {
		for _, none := range noSchemas() {
			if x, n, e := parse.Begin(l, none); len(x) > 0 || n != 0 || e != api.ErrSchema {
				t.Fatal(l, x, n, e)
			}
		}
	}
	if x, n, e := parse.Begin(nil, s); len(x) > 0 || n != 0 || e != api.ErrEnd {
		t.Fatal(x, n, e)
	}
}

// P20.1: as many tokens as possible are parsed, and those behind them do not matter.
func TestBeginStops(t *testing.T) {
	s := columns("a", "b")
	tests := []struct {
		s     string
		count int
	}{
		{"a", 1}, {"a b", 1}, {"a ,", 1}, {"a )", 1}, {"a (", 1}, {"a 1", 1}, {"a 'x'", 1}, {"a not b", 1}, {"a len b", 1}, {"a c", 1}, {"a as b", 1}, {"a 007", 1}, {"a '\\61'", 1},
		{"a = 1 = 1", 3}, {"a = 1 <> b", 3}, {"not a = 1 < b", 4}, {"a = 1 and b = 2 = 3", 7}, {"(a) (b)", 3}, {"(a))", 3}, {"- 5 5", 2}, {"- a 5", 2}, {"a - 5 5", 3}, {"a - - 5 5", 4}, {"len a a", 2}, {"a or b ) or", 3},
		{"a " + strings.Repeat("(", 200), 1}, {"a over hopping 10 5", 1}, {"b , a , b", 1}, {"a * ( b + 1 ) , 5", 7},
	}
	for _, x := range tests {
		l := split(t, x.s)
		want, e := parse.Expr(lex.Join(l[:x.count]...), s)
		if e != api.OK {
			t.Fatal(x.s, e)
		}
		if got, n, e := parse.Begin(l, s); e != api.OK || n != x.count || !slices.Equal(got, want) {
			t.Errorf("%s: %v, %d tokens, error %d", x.s, got, n, e)
		}
		if got, e := parse.Expr(x.s, s); x.count < len(l) && (len(got) > 0 || e != api.ErrForm) {
			t.Errorf("%s: %v, error %d", x.s, got, e)
		}
	}
}

// P20.1: of api.MaxCode operations, and of more; any error of the tokens is told ahead of that.
func TestLong(t *testing.T) {
	s := columns("a")
	a := get(0)
	is := func(text string, want api.Expr, e api.Errno) {
		t.Helper()
		expect(t, text, s, want, e)
	}
	is(strings.Repeat("-", maxCode-1)+"a", append(of(a), slices.Repeat(of(op(api.Neg)), maxCode-1)...), api.OK)
	is(strings.Repeat("-", maxCode)+"a", nil, api.ErrLong)
	is(strings.Repeat("-", maxCode)+"5", append(of(number(-5)), slices.Repeat(of(op(api.Neg)), maxCode-1)...), api.OK)
	is(strings.Repeat("not ", maxCode-1)+"a", append(of(a), slices.Repeat(of(op(api.Not)), maxCode-1)...), api.OK)
	is(strings.Repeat("not ", maxCode)+"a", nil, api.ErrLong)
	is("a"+strings.Repeat("+a", 31), append(of(a), slices.Repeat(of(a, op(api.Add)), 31)...), api.OK)
	is("-a"+strings.Repeat("+a", 31), append(of(a, op(api.Neg)), slices.Repeat(of(a, op(api.Add)), 31)...), api.OK)
	is("- -a"+strings.Repeat("+a", 31), nil, api.ErrLong)
	is("a"+strings.Repeat("+a", 32), nil, api.ErrLong)
	for _, many := range []int{32, 33, 100, 20000} {
		long := "a" + strings.Repeat("+a", many)
		for _, rest := range []string{"", " a", ")", " ,", " = a = a", " c", " 007"} {
			if x, n, e := parse.Begin(split(t, long+rest), s); len(x) > 0 || n != 0 || e != api.ErrLong {
				t.Fatal(many, rest, x, n, e)
			}
		}
		is(long+"+", nil, api.ErrEnd)
		is(long+"+c", nil, api.ErrNone)
		is(long+"+,", nil, api.ErrForm)
		is(long+"+ 9223372036854775808", nil, api.ErrOver)
		is("("+long, nil, api.ErrEnd)
		is("("+long+" a", nil, api.ErrForm)
	}
}

// P20.1: how deep a token may be contained in others, that is said ahead of what follows, and of nothing that is not parsed as such.
func TestDepth(t *testing.T) {
	s := columns("a")
	for _, token := range []string{"(", "not ", "-", "len ", "(-", "-(", "not (", "len(", "(not -", "-len "} {
		each := len(split(t, token))
		deep := strings.Repeat(token, maxDepth/each) + strings.Repeat("(", maxDepth%each)
		expect(t, deep, s, nil, api.ErrEnd)
		expect(t, deep+")", s, nil, api.ErrForm)
		expect(t, deep+"c", s, nil, api.ErrNone)
		for _, more := range []string{"(", "-", "len", "(c", "-c", "len c", "- and", "-(5)"} {
			expect(t, deep+more, s, nil, api.ErrLong)
		}
		expect(t, deep+"-5 c", s, nil, errorBehind(token)) // it is no Neg
		expect(t, strings.Repeat(token, 20000), s, nil, api.ErrLong)
	}
	open, shut := strings.Repeat("(", maxDepth-1), strings.Repeat(")", maxDepth-1)
	a := get(0)
	tests := []struct {
		s string
		x api.Expr
		e api.Errno
	}{
		{"(a)", of(a), api.OK},
		{"((a))", nil, api.ErrLong},
		{"(a) + (a)", of(a, a, op(api.Add)), api.OK},
		{"-a + -a", of(a, op(api.Neg), a, op(api.Neg), op(api.Add)), api.OK},
		{"len a + len a", of(a, op(api.Len), a, op(api.Len), op(api.Add)), api.OK},
		{"not a and not a", of(a, op(api.Not), a, op(api.Not), op(api.And)), api.OK},
		{"(-5)", of(number(-5)), api.OK},
		{"--5", of(number(-5), op(api.Neg)), api.OK},
		{"-(5)", nil, api.ErrLong},
		{"not (a)", nil, api.ErrLong},
		{"not a = (a)", nil, api.ErrLong}, // the "not" contains all of the comparison
		{"-a = (a)", of(a, op(api.Neg), a, op(api.Eq)), api.OK},
		{"not a and (a)", of(a, op(api.Not), a, op(api.And)), api.OK},
		{"not not a", nil, api.ErrLong},
		{"- - a", nil, api.ErrLong},
		{"len len a", nil, api.ErrLong},
		{"- not a", nil, api.ErrForm}, // no "not" can be parsed there, however deep
		{"len not a", nil, api.ErrForm},
		{"a + not not not a", nil, api.ErrForm},
		{"- and", nil, api.ErrForm},
	}
	for _, x := range tests {
		expect(t, open+x.s+shut, s, x.x, x.e)
		expect(t, open+x.s+shut+" + "+open+"-a"+shut, s, followed(x.x), x.e)
	}
}

// errorBehind is that of an element which a name follows, as deep in a token as may be: a "(" waits for its ")", the others have ended.
func errorBehind(token string) api.Errno {
	if strings.Contains(token, "(") {
		return api.ErrForm
	}
	return api.ErrLong // of too many operations
}

// followed is an expression to which -a is added; nil, if there is none.
func followed(x api.Expr) api.Expr {
	if x == nil {
		return nil
	}
	return append(slices.Clone(x), get(0), op(api.Neg), op(api.Add))
}

// derive is the expression that tokens, all of them, are at a level, as the document's table says it; nil, if they are none.
func derive(level int, l []lex.Token, s api.Schema) api.Expr {
	if len(l) == 0 {
		return nil
	}
	var next api.Expr
	if level < 8 {
		next = derive(level+1, l, s)
	}
	if next != nil {
		return next
	}
	switch level {
	case 1, 2, 5, 6:
		return derivePair(level, level, l, s)
	case 3:
		return derivePrefix(3, "not", api.Not, l, s)
	case 4:
		return derivePair(4, 5, l, s)
	case 7:
		if len(l) > 1 && l[0].Text == "-" && l[1].Kind != lex.Digits {
			return derivePrefix(7, "-", api.Neg, l, s)
		}
		return derivePrefix(7, "len", api.Len, l, s)
	}
	return deriveLast(l, s)
}

// derivePair is two operands, the first one of such a level, and an operator of the level between.
func derivePair(level, first int, l []lex.Token, s api.Schema) api.Expr {
	for i := range l {
		o := binary[l[i].Text]
		if o.level != level {
			continue
		}
		a := derive(first, l[:i], s)
		if a == nil {
			continue
		}
		if b := derive(level+1, l[i+1:], s); b != nil {
			return slices.Concat(a, b, of(op(o.code)))
		}
	}
	return nil
}

func derivePrefix(level int, text string, c api.Code, l []lex.Token, s api.Schema) api.Expr {
	if l[0].Text != text {
		return nil
	}
	x := derive(level, l[1:], s)
	if x == nil {
		return nil
	}
	return append(x, op(c))
}

func deriveLast(l []lex.Token, s api.Schema) api.Expr {
	last := len(l) - 1
	switch {
	case last > 1 && l[0].Text == "(" && l[last].Text == ")":
		return derive(1, l[1:last], s)
	case last == 0 && l[0].Kind == lex.Digits, last == 1 && l[0].Text == "-" && l[1].Kind == lex.Digits:
		if n, e := num.Read(strings.ReplaceAll(lex.Join(l...), " ", "")); e == api.OK {
			return of(number(n))
		}
	case last == 0 && l[0].Kind == lex.Quote:
		if v, e := value.Parse(l[0].Text); e == api.OK {
			return of(text(v.Text))
		}
	case last == 0:
		for i, c := range s {
			if c.Name == l[0].Text {
				return of(get(i))
			}
		}
	}
	return nil
}

// closed are tokens, and a ")" for each "(" that is open.
func closed(l []lex.Token) []lex.Token {
	l = slices.Clone(l)
	for _, x := range slices.Clone(l) {
		switch x.Text {
		case "(":
			l = append(l, lex.Token{Kind: lex.Sign, Text: ")"})
		case ")":
			l = l[:len(l)-1]
		}
	}
	return l
}

// balanced tells whether no ")" is without its "(".
func balanced(l []lex.Token) bool {
	open := 0
	for _, x := range l {
		open += strings.Count(x.Text, "(") - strings.Count(x.Text, ")")
		if open < 0 {
			return false
		}
	}
	return true
}

// ended tells whether no element must follow tokens that begin an expression; viable, whether they begin one.
func ended(l []lex.Token, s api.Schema) bool {
	return balanced(l) && derive(1, closed(l), s) != nil
}

func viable(l []lex.Token, s api.Schema) bool {
	element := lex.Token{Kind: lex.Name, Text: s[0].Name}
	return ended(l, s) || balanced(l) && derive(1, closed(append(slices.Clone(l), element)), s) != nil
}

// begin is what the document says of Begin, for few tokens: the first one with which those up to it begin no expression is the one that cannot be parsed.
func begin(l []lex.Token, s api.Schema) (api.Expr, int, api.Errno) {
	to := 0
	for to < len(l) && viable(l[:to+1], s) {
		to++
	}
	if whole := derive(1, l[:to], s); whole != nil {
		return whole, to, api.OK
	}
	switch {
	case to == len(l):
		return nil, 0, api.ErrEnd
	case ended(l[:to], s):
		return nil, 0, api.ErrForm
	}
	minus := to > 0 && l[to-1].Text == "-" && !ended(l[:to-1], s)
	return nil, 0, elementError(l[to], minus)
}

// elementError is that of a token with which no element can begin where one must.
func elementError(x lex.Token, minus bool) api.Errno {
	_, numeral := num.Read(x.Text)
	if minus {
		_, numeral = num.Read("-" + x.Text)
	}
	_, quoted := value.Parse(x.Text)
	switch {
	case x.Kind == lex.Digits:
		return numeral
	case x.Kind == lex.Quote:
		return quoted
	case x.Kind == lex.Name && !slices.Contains([]string{"and", "or", "not", "len"}, x.Text):
		return api.ErrNone
	}
	return api.ErrForm
}

// hold fails unless Begin and Expr say of tokens what the document does.
func hold(t *testing.T, l []lex.Token, s api.Schema) {
	t.Helper()
	want, count, failed := begin(l, s)
	x, n, e := parse.Begin(l, s)
	if e != failed || n != count || !slices.Equal(x, want) {
		t.Fatalf("%s begins with %v, %d tokens, error %d, and not with %v, %d tokens, error %d", lex.Join(l...), x, n, e, want, count, failed)
	}
	if e == api.OK && (expr.Form(x) != api.OK || expr.Form(want) != api.OK) {
		t.Fatal(lex.Join(l...), x)
	}
	if e == api.OK && n < len(l) {
		want, failed = nil, api.ErrForm
	}
	if x, e := parse.Expr(lex.Join(l...), s); e != failed || !slices.Equal(x, want) {
		t.Fatalf("%s: %v, error %d, and not %v, error %d", lex.Join(l...), x, e, want, failed)
	}
}

// P20.1, P20.2, P20.3: all short lists of tokens, held against the definition. What begins no expression is followed no further than by one token.
func TestAllShort(t *testing.T) {
	s := columns("a")
	alphabet := split(t, "a 1 0 007 'x' '\\61' - + * = not and or len ( ) c ,")
	heads := [][]lex.Token{nil}
	for range 5 {
		var longer [][]lex.Token
		for _, head := range heads {
			for _, x := range alphabet {
				l := append(slices.Clone(head), x)
				hold(t, l, s)
				if viable(l, s) {
					longer = append(longer, l)
				} else {
					hold(t, append(l, alphabet[len(longer)%len(alphabet)]), s)
				}
			}
		}
		heads = longer
	}
	if len(heads) < 1000 {
		t.Fatal("too few begin an expression:", len(heads))
	}
}

// dice are numbers without a pattern, the same each time.
type dice uint64

func (d *dice) roll(n int) int {
	*d = *d*6364136223846793005 + 1442695040888963407
	return int(uint64(*d)>>33) % n
}

// P20.1, P20.2, P20.3: longer lists, held against the definition.
func TestMixed(t *testing.T) {
	s := columns("a", "b")
	alphabet := split(t, "a b 1 0 'x' - - + ++ * / % = <> < <= > >= not and or len ( ( ) ) 1 a b c , 007")
	d := dice(201)
	for range 20000 {
		var l []lex.Token
		for range d.roll(9) {
			x := alphabet[d.roll(len(alphabet))]
			if more := append(slices.Clone(l), x); viable(more, s) || d.roll(8) == 0 {
				l = more
			}
		}
		hold(t, l, s)
	}
}

// expr is a well-formed expression of up to so many operations, of whatever kinds.
func (d *dice) expr(upTo, cols int) api.Expr {
	ones := []api.Code{api.Neg, api.Not, api.Len}
	switch form := d.roll(8); {
	case upTo >= 3 && form > 2:
		first := d.expr(upTo-2, cols)
		second := d.expr(upTo-1-len(first), cols)
		return slices.Concat(first, second, of(op(api.Add+api.Code(d.roll(14)))))
	case upTo >= 2 && form > 0:
		return append(d.expr(upTo-1, cols), op(ones[d.roll(3)]))
	}
	switch d.roll(3) {
	case 0:
		return of(number([]int{0, 1, -1, 63, -64, 1 << 40, least, most}[d.roll(8)]))
	case 1:
		return of(text([]string{"", "a", "it's", " and \\", "\x00\xff", strings.Repeat("x", 64)}[d.roll(6)]))
	}
	return of(get(d.roll(cols)))
}

// level is that of the operator that comes last.
func level(x api.Expr) int {
	last := x[len(x)-1].Code
	for _, o := range binary {
		if o.code == last {
			return o.level
		}
	}
	return map[api.Code]int{api.Not: 3, api.Neg: 7, api.Len: 7, api.Num: 8, api.Str: 8, api.Get: 8}[last]
}

// write is an expression's text at a level: between brackets where it must be, and at times where it need not be.
func (d *dice) write(x api.Expr, at int, s api.Schema) string {
	if level(x) < at || d.roll(10) == 0 {
		return "(" + d.blanks() + d.write(x, 1, s) + d.blanks() + ")"
	}
	parts, _ := expr.Parts(x)
	last := x[len(x)-1]
	switch last.Code {
	case api.Num:
		return num.Show(last.Num)
	case api.Str:
		v, _ := value.Text(last.Text)
		return value.Show(v)
	case api.Get:
		return s[last.Num].Name
	case api.Not:
		return "not " + d.write(parts[0], 3, s)
	case api.Len:
		return "len " + d.write(parts[0], 7, s)
	case api.Neg:
		part := d.write(parts[0], 7, s)
		if strings.Contains("0123456789", part[:1]) {
			part = "(" + part + ")"
		}
		return "-" + d.blanks() + part
	}
	return d.writePair(parts, last.Code, s)
}

func (d *dice) writePair(parts []api.Expr, c api.Code, s api.Schema) string {
	for text, o := range binary {
		if o.code != c {
			continue
		}
		first := o.level
		if o.level == 4 {
			first = 5
		}
		blank := d.blanks()
		if o.level < 3 {
			blank = " "
		}
		a := d.write(parts[0], first, s)
		return a + blank + text + blank + d.write(parts[1], o.level+1, s)
	}
	return ""
}

// blanks are some, or none.
func (d *dice) blanks() string { return strings.Repeat(" ", d.roll(3)) }

// P20.1, P20.2, P20.3: what an expression is written as gives the expression, of whatever size.
func TestWritten(t *testing.T) {
	s := columns("a", "b", "c3", "d", "e", "f", "g", "abcdefghijklmnop")
	d := dice(203)
	for i := range 20000 {
		x := d.expr(1+i%maxCode, len(s))
		written := d.write(x, 1, s)
		got, e := parse.Expr(d.blanks()+written+d.blanks(), s)
		if e != api.OK || !expr.Same(got, x) {
			t.Fatalf("%s: %v, error %d, and not %v", written, got, e, x)
		}
		l := split(t, written)
		if got, n, e := parse.Begin(l, s); e != api.OK || n != len(l) || !expr.Same(got, x) {
			t.Fatalf("%s: %v, %d tokens, error %d", written, got, n, e)
		}
	}
}

// P1, P20.3: any bytes and any tokens are answered; what is answered is well formed, of columns that there are.
func TestAnything(t *testing.T) {
	d := dice(204)
	words := append(split(t, "a b c 1 007 99999999999999999999 'x' '\\61' - - ( ( ( ) ) not len and or = + ++ * , <>"), noTokens()...)
	schemas := append(noSchemas(), columns("a"), columns("b", "a"), columns("c", "b", "a"))
	for range 50000 {
		var l []lex.Token
		for range d.roll(20) {
			l = append(l, words[d.roll(len(words)-d.roll(2)*len(noTokens()))])
		}
		s := schemas[d.roll(len(schemas))]
		x, n, e := parse.Begin(l, s)
		if e == api.OK && (n < 1 || n > len(l) || expr.Form(x) != api.OK) || e != api.OK && (n != 0 || len(x) > 0) {
			t.Fatal(l, x, n, e)
		}
		for _, o := range x {
			if o.Code == api.Get && o.Num >= len(s) {
				t.Fatal(l, x)
			}
		}
		if y, e := parse.Expr(lex.Join(l...), s); e == api.OK && expr.Form(y) != api.OK || e != api.OK && len(y) > 0 {
			t.Fatal(l, y, e)
		}
	}
}

// P3: an expression belongs to who asked for it; tokens and columns stay as they are, what is behind them too.
func TestNew(t *testing.T) {
	s := columns("a", "b", "c")
	l := split(t, "a + 1 * b , c c c")
	tokens, cols := slices.Clone(l), slices.Clone(s)
	x, n, _ := parse.Begin(l[:5], s[:2])
	y, m, _ := parse.Begin(l[:5], s[:2])
	z, _ := parse.Expr("a + 1 * b", s[:2])
	want := of(get(0), number(1), get(1), op(api.Mul), op(api.Add))
	if n != 5 || m != 5 || !slices.Equal(x, want) {
		t.Fatal(x, n, m)
	}
	for i := range x[:cap(x)] {
		x[:cap(x)][i] = op(99)
	}
	if !slices.Equal(y, want) || !slices.Equal(z, want) || !slices.Equal(l, tokens) || !slices.Equal(s, cols) {
		t.Fatal(y, z, l, s)
	}
	clear(l)
	clear(s)
	if !slices.Equal(y, want) {
		t.Fatal(y)
	}
}
