package lex_test

import (
	"math"
	"slices"
	"strings"
	"testing"

	"rescind/api"
	"rescind/lex"
)

func name(s string) lex.Token { return lex.Token{Kind: lex.Name, Text: s} }

func digits(s string) lex.Token { return lex.Token{Kind: lex.Digits, Text: s} }

func quote(s string) lex.Token { return lex.Token{Kind: lex.Quote, Text: s} }

func sign(s string) lex.Token { return lex.Token{Kind: lex.Sign, Text: s} }

// list is tokens.
func list(l ...lex.Token) []lex.Token { return l }

// signs are all that there are, as the document lists them.
func signs() []string {
	return []string{"=", "<>", "<", "<=", ">", ">=", "+", "++", "-", "*", "/", "%", "(", ")", ","}
}

func in(from, c, to byte) bool { return from <= c && c <= to }

// is is what the document says of a token of each kind.
func is(kind int, s string) bool {
	if s == "" {
		return false
	}
	last := len(s) - 1
	switch kind {
	case 1:
		for i := range len(s) {
			if !in('a', s[i], 'z') && (i == 0 || !in('0', s[i], '9')) {
				return false
			}
		}
		return true
	case 2:
		return strings.Trim(s, "0123456789") == ""
	case 3:
		return last > 0 && s[0] == 39 && s[last] == 39 && strings.Count(s, "'") == 2
	case 4:
		return slices.Contains(signs(), s)
	}
	return false
}

// cut is what the document says of Split: at each byte that is no blank the longest token, of all that could begin there.
func cut(s string) ([]lex.Token, api.Errno) {
	var l []lex.Token
	for s != "" {
		if s[0] == 32 {
			s = s[1:]
			continue
		}
		var longest lex.Token
		for to := 1; to <= len(s); to++ {
			for kind := 1; kind <= 4; kind++ {
				if is(kind, s[:to]) {
					longest = lex.Token{Kind: kind, Text: s[:to]}
				}
			}
		}
		if longest.Kind == 0 && s[0] == 39 {
			return nil, api.ErrEnd
		}
		if longest.Kind == 0 {
			return nil, api.ErrWord
		}
		l = append(l, longest)
		s = s[len(longest.Text):]
	}
	return l, api.OK
}

// short are all texts of up to so many of these bytes.
func short(upTo int, alphabet string) []string {
	all := []string{""}
	for from := 0; upTo > 0; upTo-- {
		to := len(all)
		for _, s := range all[from:to] {
			for i := range len(alphabet) {
				all = append(all, s+alphabet[i:i+1])
			}
		}
		from = to
	}
	return all
}

// dice are numbers without a pattern, the same each time.
type dice uint64

func (d *dice) roll(n int) int {
	*d = *d*6364136223846793005 + 1442695040888963407
	return int(uint64(*d)>>33) % n
}

// text is up to so many of these bytes.
func (d *dice) text(upTo int, alphabet string) string {
	b := make([]byte, d.roll(upTo+1))
	for i := range b {
		b[i] = alphabet[d.roll(len(alphabet))]
	}
	return string(b)
}

// token is one that is valid.
func (d *dice) token() lex.Token {
	switch d.roll(4) {
	case 0:
		return name(string([]byte{byte('a' + d.roll(26))}) + d.text(20, "abyz019"))
	case 1:
		return digits(d.text(20, "0123456789") + "0")
	case 2:
		return quote("'" + d.text(20, "  a+\x00\xff\n\\\"!(") + "'")
	}
	return sign(signs()[d.roll(15)])
}

// noTokens are some that are not valid, whatever it is that is wrong.
func noTokens() []lex.Token {
	l := list(
		lex.Token{}, name(""), digits(""), quote(""), sign(""),
		name("1a"), name("1"), name("A"), name("aB"), name("a_b"), name("a "), name(" a"), name("a b"), name("a-"), name("'a'"), name("+"), name("é"), name("a\x00"), name("`"), name("{"), name("a{"),
		digits("a"), digits("1a"), digits("-1"), digits("+1"), digits("1 "), digits(" 1"), digits("1.5"), digits("/"), digits(":"), digits("1:"), digits("'1'"), digits("٣"),
		quote("'"), quote("'a"), quote("a'"), quote("a"), quote("'''"), quote("''''"), quote("'a'b'"), quote("'a' "), quote(" 'a'"), quote("'a'b"), quote("\"a\""), quote("‘a’"),
		sign("=<"), sign("=="), sign("=>"), sign("><"), sign("--"), sign("+++"), sign("+ +"), sign("<>="), sign("<= "), sign(" ="), sign("()"), sign(",,"), sign("!"), sign("!="), sign("."), sign(";"), sign("&"), sign("a"), sign("1"), sign("''"), sign("'"), sign(" "),
	)
	for _, kind := range []int{0, 5, -1, -4, 257, 1<<32 + 1, math.MaxInt64, math.MinInt64, math.MinInt64 + 1} {
		for _, s := range []string{"", "a", "1", "''", "+", "!"} {
			l = append(l, lex.Token{Kind: kind, Text: s})
		}
	}
	return l
}

// P19.1: the document's examples, and each kind at its edges.
func TestMay(t *testing.T) {
	l := list(
		name("a"), name("z"), name("a0"), name("z9"), name("a1b2"), name("and"), name("or"), name("not"), name("len"), name(strings.Repeat("a", 17)), name("a"+strings.Repeat("0", 5000)),
		digits("0"), digits("9"), digits("00"), digits("007"), digits("1234567890"), digits(strings.Repeat("9", 5000)),
		quote("''"), quote("' '"), quote("'a'"), quote("'\\'"), quote("'\\61'"), quote("'\x00\n\xff'"), quote("'é'"), quote("'\"'"), quote("'"+strings.Repeat("a", 5000)+"'"),
	)
	for _, s := range signs() {
		l = append(l, sign(s))
	}
	for _, x := range l {
		if !lex.May(x) {
			t.Errorf("%v is a token", x)
		}
	}
	for _, x := range noTokens() {
		if lex.May(x) {
			t.Errorf("%v is no token", x)
		}
	}
}

// P19.1: each byte by itself, and as the second one.
func TestMayOfEachByte(t *testing.T) {
	for c := range 256 {
		b := string([]byte{byte(c)})
		for kind := 0; kind <= 5; kind++ {
			for _, s := range []string{b, "a" + b, "1" + b, "'" + b, "'" + b + "'", "'a'" + b, "<" + b, ">" + b, "+" + b, "-" + b, "=" + b, b + "=", b + "a", b + "'"} {
				if got := lex.May(lex.Token{Kind: kind, Text: s}); got != is(kind, s) {
					t.Errorf("%d %q: %v", kind, s, got)
				}
			}
		}
	}
}

// P19.1: all short texts, held against the definition.
func TestMayOfAllShort(t *testing.T) {
	for _, s := range short(4, "az19'<=>+- !(") {
		for kind := -1; kind <= 5; kind++ {
			if got := lex.May(lex.Token{Kind: kind, Text: s}); got != is(kind, s) {
				t.Fatalf("%d %q: %v", kind, s, got)
			}
		}
	}
}

// P19.1: the document's examples, and others.
func TestSplit(t *testing.T) {
	tests := []struct {
		s    string
		want []lex.Token
	}{
		{"", nil},
		{" ", nil},
		{"     ", nil},
		{"1a+++<=>", list(digits("1"), name("a"), sign("++"), sign("+"), sign("<="), sign(">"))},
		{"a<=12+'b c'", list(name("a"), sign("<="), digits("12"), sign("+"), quote("'b c'"))},
		{" a <= 12 + 'b c' ", list(name("a"), sign("<="), digits("12"), sign("+"), quote("'b c'"))},
		{"a1b2", list(name("a1b2"))},
		{"a 1b2", list(name("a"), digits("1"), name("b2"))},
		{"007a7", list(digits("007"), name("a7"))},
		{"1 2", list(digits("1"), digits("2"))},
		{"''", list(quote("''"))},
		{"''''", list(quote("''"), quote("''"))},
		{"'a''b'c", list(quote("'a'"), quote("'b'"), name("c"))},
		{"a'b'1", list(name("a"), quote("'b'"), digits("1"))},
		{"'  '  '\n!A\x00\xff'", list(quote("'  '"), quote("'\n!A\x00\xff'"))},
		{"'it\\27s'", list(quote("'it\\27s'"))},
		{"<<>>", list(sign("<"), sign("<>"), sign(">"))},
		{"<>=", list(sign("<>"), sign("="))},
		{"<=>=", list(sign("<="), sign(">="))},
		{"==", list(sign("="), sign("="))},
		{"=<>", list(sign("="), sign("<>"))},
		{"=>", list(sign("="), sign(">"))},
		{">>=", list(sign(">"), sign(">="))},
		{"< =", list(sign("<"), sign("="))},
		{"< >", list(sign("<"), sign(">"))},
		{"+ +", list(sign("+"), sign("+"))},
		{"++++", list(sign("++"), sign("++"))},
		{"--", list(sign("-"), sign("-"))},
		{"-5", list(sign("-"), digits("5"))},
		{"=<><<=>>=+++-*/%(),", list(sign("="), sign("<>"), sign("<"), sign("<="), sign(">"), sign(">="), sign("++"), sign("+"), sign("-"), sign("*"), sign("/"), sign("%"), sign("("), sign(")"), sign(","))},
		{"sum ( a ) as s , not len", list(name("sum"), sign("("), name("a"), sign(")"), name("as"), name("s"), sign(","), name("not"), name("len"))},
	}
	for _, x := range tests {
		if l, e := lex.Split(x.s); e != api.OK || !slices.Equal(l, x.want) {
			t.Errorf("%q: %v, error %d", x.s, l, e)
		}
	}
}

// P19.1, P2: wrong texts; the first position that no token begins at decides, and beside an error there are no tokens.
func TestSplitErrors(t *testing.T) {
	tests := []struct {
		s string
		e api.Errno
	}{
		{"a !", api.ErrWord}, {"!", api.ErrWord}, {"A", api.ErrWord}, {"aB", api.ErrWord}, {"a_b", api.ErrWord}, {"a\n", api.ErrWord}, {"\t", api.ErrWord}, {"a\x00", api.ErrWord}, {"\xff", api.ErrWord}, {"é", api.ErrWord},
		{"\u00a0", api.ErrWord}, {"1.5", api.ErrWord}, {"a;", api.ErrWord}, {"\"a\"", api.ErrWord}, {"\\", api.ErrWord}, {"`", api.ErrWord}, {"{", api.ErrWord}, {":", api.ErrWord}, {"a & b", api.ErrWord}, {"!=", api.ErrWord},
		{"'", api.ErrEnd}, {"'a", api.ErrEnd}, {"'''", api.ErrEnd}, {"a '", api.ErrEnd}, {"'a'b'", api.ErrEnd}, {"'a' 'b", api.ErrEnd}, {"' ", api.ErrEnd}, {"'\\", api.ErrEnd}, {"12+'b c", api.ErrEnd},
		{"'a !", api.ErrEnd}, {"' ! A", api.ErrEnd}, {"! 'a", api.ErrWord}, {"!'", api.ErrWord}, {"'a' ! '", api.ErrWord}, {"'!' '", api.ErrEnd}, {"'a'!'b'", api.ErrWord},
	}
	for _, x := range tests {
		if l, e := lex.Split(x.s); len(l) > 0 || e != x.e {
			t.Errorf("%q: %v, error %d", x.s, l, e)
		}
	}
}

// P19.1: each byte, by itself, beside others, and in a quote.
func TestSplitOfEachByte(t *testing.T) {
	for c := range 256 {
		b := string([]byte{byte(c)})
		for _, s := range []string{b, b + b, "a" + b, b + "a", "1" + b, b + "1", "<" + b, ">" + b, "+" + b, b + "=", b + ">", "'" + b + "'", "'a" + b, " " + b + " ", "a" + b + "a" + b + "'"} {
			expectCut(t, s)
		}
	}
}

// P19.1: all short texts, held against the definition.
func TestSplitOfAllShort(t *testing.T) {
	for _, s := range short(5, "a1'<=>+ !(") {
		expectCut(t, s)
	}
}

func expectCut(t *testing.T, s string) {
	t.Helper()
	want, failed := cut(s)
	if l, e := lex.Split(s); e != failed || !slices.Equal(l, want) {
		t.Fatalf("%q: %v, error %d, and not %v, error %d", s, l, e, want, failed)
	}
}

// P19.1: texts of many tokens, and tokens of many bytes, of which no one is looked at often.
func TestSplitOfLong(t *testing.T) {
	const many = 200000
	l, e := lex.Split(strings.Repeat("a1<=12+'b c' ", many))
	if e != api.OK || len(l) != 5*many || l[0] != name("a1") || l[5*many-1] != quote("'b c'") {
		t.Fatal(len(l), e)
	}
	for _, s := range []string{strings.Repeat("a", many), strings.Repeat("0", many), "'" + strings.Repeat(" +", many) + "'"} {
		if l, e := lex.Split(s); e != api.OK || len(l) != 1 || l[0].Text != s || !lex.May(l[0]) {
			t.Fatal(len(l), e)
		}
	}
	if l, e := lex.Split(strings.Repeat("a ", many) + "'"); e != api.ErrEnd || len(l) > 0 {
		t.Fatal(len(l), e)
	}
	if l, e := lex.Split(strings.Repeat(" ", many)); e != api.OK || len(l) > 0 {
		t.Fatal(len(l), e)
	}
}

// P19.2: of tokens, and of what is none.
func TestJoin(t *testing.T) {
	tests := []struct {
		l    []lex.Token
		want string
	}{
		{nil, ""},
		{list(), ""},
		{list(name("a")), "a"},
		{list(name("a"), sign("<="), digits("12"), sign("+"), quote("'b c'")), "a <= 12 + 'b c'"},
		{list(sign("-"), digits("5")), "- 5"},
		{list(quote("''"), quote("'  '")), "'' '  '"},
		{list(lex.Token{}), ""},
		{list(lex.Token{}, lex.Token{}), " "},
		{list(name("a"), lex.Token{}, name("b")), "a  b"},
		{list(name(" A! "), quote("'"), lex.Token{Kind: -7, Text: "\xff\x00"}, sign("=<")), " A!  ' \xff\x00 =<"},
	}
	for _, x := range tests {
		if s := lex.Join(x.l...); s != x.want {
			t.Errorf("%v: %q", x.l, s)
		}
	}
	for _, x := range noTokens() {
		if s := lex.Join(x, name("a"), x); s != x.Text+" a "+x.Text {
			t.Errorf("%v: %q", x, s)
		}
	}
}

// P19.2: all pairs; kinds and texts count, and so do places.
func TestSame(t *testing.T) {
	l := [][]lex.Token{nil, list(name("a"), name("b")), list(name("b"), name("a")), list(name("a"), name("a")), list(name("ab")), list(name("a b")), list(name("a"), sign("b")), list(lex.Token{}, lex.Token{})}
	for _, x := range append(noTokens(), name("a"), digits("1"), quote("''"), sign("+")) {
		l = append(l, list(x))
	}
	for i, a := range l {
		for j, b := range l {
			if got := lex.Same(a, slices.Clone(b)); got != (i == j || len(a) == 1 && len(b) == 1 && a[0].Kind == b[0].Kind && a[0].Text == b[0].Text) {
				t.Errorf("%v and %v: %v", a, b, got)
			}
		}
	}
	if !lex.Same(nil, list()) || !lex.Same(list(), nil) {
		t.Error("nil has no tokens, as an empty list")
	}
	long := slices.Repeat(list(name("a"), sign("+")), 5000)
	if !lex.Same(long, slices.Clone(long)) || lex.Same(long, long[1:]) || lex.Same(long[1:], long) || lex.Same(long, append(slices.Clone(long[:9999]), sign("++"))) {
		t.Error("long ones")
	}
}

// P19.3
func TestSplitInvertsJoin(t *testing.T) {
	d := dice(193)
	for range 5000 {
		var l []lex.Token
		for range d.roll(12) {
			l = append(l, d.token())
		}
		for _, x := range l {
			if !lex.May(x) {
				t.Fatal(x)
			}
		}
		got, e := lex.Split(lex.Join(l...))
		if e != api.OK || !lex.Same(got, l) {
			t.Fatal(l, got, e)
		}
	}
}

// P19.3: all pairs of short tokens, which a blank keeps apart.
func TestSplitInvertsJoinOfPairs(t *testing.T) {
	l := list(name("a"), name("a1"), digits("1"), digits("00"), quote("''"), quote("' '"))
	for _, s := range signs() {
		l = append(l, sign(s))
	}
	for _, a := range l {
		for _, b := range l {
			if got, e := lex.Split(lex.Join(a, b)); e != api.OK || !slices.Equal(got, list(a, b)) {
				t.Fatal(a, b, got, e)
			}
		}
	}
}

// outside is a text without the blanks that are outside of quotes.
func outside(s string) string {
	parts := strings.Split(s, "'")
	for i := 0; i < len(parts); i += 2 {
		parts[i] = strings.ReplaceAll(parts[i], " ", "")
	}
	return strings.Join(parts, "'")
}

// P19.4
func TestTokensAreTheBytes(t *testing.T) {
	d := dice(194)
	l := short(4, "a1'<+ !")
	for range 20000 {
		l = append(l, d.text(30, "  ab019''<>=+-*/%(),"))
	}
	found := 0
	for _, s := range l {
		tokens, e := lex.Split(s)
		if e != api.OK {
			continue
		}
		found++
		whole := ""
		for _, x := range tokens {
			if !lex.May(x) {
				t.Fatalf("%q: %v", s, x)
			}
			whole += x.Text
		}
		if whole != outside(s) {
			t.Fatalf("%q: %q", s, whole)
		}
	}
	if found < 5000 {
		t.Fatal("too few texts have tokens:", found)
	}
	tokens, e := lex.Split("a<=12+'b c'")
	if e != api.OK || lex.Join(tokens...) != "a <= 12 + 'b c'" {
		t.Fatal(tokens, e)
	}
}

// P3: tokens belong to who asked for them, and those that are handed in stay as they are.
func TestNew(t *testing.T) {
	a, _ := lex.Split("a + 1")
	b, _ := lex.Split("a + 1")
	whole := a[:cap(a)]
	for i := range whole {
		whole[i] = lex.Token{Kind: 9, Text: "over"}
	}
	if lex.Join(b...) != "a + 1" {
		t.Fatal(b)
	}
	for i := range b[:cap(b)] {
		b[:cap(b)][i] = lex.Token{Kind: 9, Text: "over"}
	}
	copy(b, list(name("a"), sign("+"), digits("1")))
	before := slices.Clone(b[:cap(b)])
	if lex.Join(b...) != "a + 1" || !lex.Same(b, b) || !slices.Equal(b[:cap(b)], before) {
		t.Fatal(b[:cap(b)])
	}
}
