package show

import (
	"rescind/api"
	"rescind/lex"
	"rescind/num"
	"rescind/value"
)

// The levels.
const (
	orLevel      = 1
	andLevel     = 2
	notLevel     = 3
	compareLevel = 4
	addLevel     = 5
	mulLevel     = 6
	prefixLevel  = 7
	elementLevel = 8
)

// levelOf is that of an operation that there is.
func levelOf(c api.Code) int {
	switch c {
	case api.Or:
		return orLevel
	case api.And:
		return andLevel
	case api.Not:
		return notLevel
	case api.Eq, api.Ne, api.Lt, api.Le, api.Gt, api.Ge:
		return compareLevel
	case api.Add, api.Sub, api.Cat:
		return addLevel
	case api.Mul, api.Quo, api.Rem:
		return mulLevel
	case api.Neg, api.Len:
		return prefixLevel
	}
	return elementLevel
}

// needsBrackets tells whether the part of an operation at a place would be parsed as something else without brackets. A number behind the operator of Neg would: as a negative one.
func needsBrackets(c api.Code, at int, part api.Expr) bool {
	last := lastOf(part)
	if c == api.Neg && last.Code == api.Num && last.Num >= 0 {
		return true
	}
	return levelOf(last.Code) < required(c, at)
}

// required is the level that a part has at least if it has no brackets. Operators of one level are parsed from the left, so that only the first part may be of that level, too; comparisons don't stand in a row.
func required(c api.Code, at int) int {
	own := levelOf(c)
	if at > 0 || own == compareLevel {
		return own + 1
	}
	return own
}

// operator is what an operation that has parts is written with.
func operator(c api.Code) lex.Token {
	switch c {
	case api.Or:
		return name("or")
	case api.And:
		return name("and")
	case api.Not:
		return name("not")
	case api.Len:
		return name("len")
	}
	return sign(signOf(c))
}

// signOf is the text of an operator that is no name.
func signOf(c api.Code) string {
	switch c {
	case api.Neg, api.Sub:
		return "-"
	case api.Add:
		return "+"
	case api.Mul:
		return "*"
	case api.Quo:
		return "/"
	case api.Rem:
		return "%"
	case api.Cat:
		return "++"
	case api.Eq:
		return "="
	case api.Ne:
		return "<>"
	case api.Lt:
		return "<"
	case api.Le:
		return "<="
	case api.Gt:
		return ">"
	case api.Ge:
		return ">="
	}
	return ""
}

// element is the tokens of an operation without parts.
func element(o api.Op, s api.Schema) []lex.Token {
	switch o.Code {
	case api.Str:
		v, _ := value.Text(o.Text) // which is not too long in what is well formed
		return []lex.Token{{Kind: lex.Quote, Text: value.Show(v)}}
	case api.Get:
		return []lex.Token{name(s[o.Num].Name)}
	}
	return number(num.Show(o.Num))
}

// number is the tokens of a number as it is shown.
func number(shown string) []lex.Token {
	if shown[0] == '-' {
		return []lex.Token{sign(shown[:1]), digits(shown[1:])}
	}
	return []lex.Token{digits(shown)}
}

func name(text string) lex.Token { return lex.Token{Kind: lex.Name, Text: text} }

func digits(text string) lex.Token { return lex.Token{Kind: lex.Digits, Text: text} }

func sign(text string) lex.Token { return lex.Token{Kind: lex.Sign, Text: text} }
