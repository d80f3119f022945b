package parse

import (
	"rescind/api"
	"rescind/lex"
	"rescind/num"
	"rescind/schema"
	"rescind/value"
)

// The levels of the operators that stand between two elements.
const (
	orLevel      = 1
	andLevel     = 2
	compareLevel = 4
	addLevel     = 5
	mulLevel     = 6
)

// maxDepth is how deep a token may be: each operation of an expression may be a prefix, and stand in brackets.
const maxDepth = 2 * api.MaxCode

// parser is tokens, the place of the next one, in how many tokens that is contained, and the operations that the ones ahead of it amount to.
type parser struct {
	tokens []lex.Token
	schema api.Schema
	at     int
	depth  int
	made   api.Expr
}

// next is the next token: none of any kind, and without a text, if there is no more.
func (p *parser) next() lex.Token {
	if p.at == len(p.tokens) {
		return lex.Token{}
	}
	return p.tokens[p.at]
}

// add puts an operation behind its operands. Once there are too many, the rest is parsed only for what is wrong with it, and not kept.
func (p *parser) add(o api.Op) {
	if len(p.made) <= api.MaxCode {
		p.made = append(p.made, o)
	}
}

// either is level 1.
func (p *parser) either() { p.series(p.both, orLevel)() }

// both is level 2.
func (p *parser) both() { p.series(p.negation, andLevel)() }

// negation is level 3.
func (p *parser) negation() {
	if p.next().Text != "not" {
		p.comparison()
		return
	}
	p.prefix(api.Not, p.negation)
}

// comparison is level 4.
func (p *parser) comparison() {
	p.sum()
	if c := p.operator(compareLevel); c != api.NoCode {
		p.sum()
		p.add(api.Op{Code: c})
	}
}

// sum is level 5.
func (p *parser) sum() { p.series(p.product, addLevel)() }

// product is level 6.
func (p *parser) product() { p.series(p.signed, mulLevel)() }

// signed is level 7.
func (p *parser) signed() {
	switch t := p.next(); {
	case t.Text == "-" && !p.digitsFollow():
		p.prefix(api.Neg, p.signed)
	case t.Text == "len":
		p.prefix(api.Len, p.signed)
	default:
		p.element()
	}
}

// element is level 8. A "-" is only met here if digits follow.
func (p *parser) element() {
	t := p.next()
	switch {
	case t.Text == "":
		panic(api.ErrEnd)
	case t.Text == "(":
		p.group()
	case t.Text == "-":
		p.at++
		p.number("-" + p.next().Text)
	case t.Kind == lex.Digits:
		p.number(t.Text)
	case t.Kind == lex.Quote:
		p.quote(t.Text)
	case t.Kind == lex.Name && !isKeyword(t.Text):
		p.column(t.Text)
	default:
		panic(api.ErrForm)
	}
}

// series makes the level of one or more elements of the next one, with operators of its own between them.
func (p *parser) series(next func(), level int) func() {
	return func() {
		next()
		for c := p.operator(level); c != api.NoCode; c = p.operator(level) {
			next()
			p.add(api.Op{Code: c})
		}
	}
}

// operator goes behind the next token if that is an operator of a level, whose code it is then.
func (p *parser) operator(level int) api.Code {
	own, code := operatorOf(p.next().Text)
	if own != level {
		return api.NoCode
	}
	p.at++
	return code
}

// operatorOf is the level of an operator between two elements, and its code.
func operatorOf(text string) (int, api.Code) {
	switch text {
	case "or":
		return orLevel, api.Or
	case "and":
		return andLevel, api.And
	case "=":
		return compareLevel, api.Eq
	case "<>":
		return compareLevel, api.Ne
	case "<":
		return compareLevel, api.Lt
	case "<=":
		return compareLevel, api.Le
	case ">":
		return compareLevel, api.Gt
	case ">=":
		return compareLevel, api.Ge
	case "+":
		return addLevel, api.Add
	case "-":
		return addLevel, api.Sub
	case "++":
		return addLevel, api.Cat
	case "*":
		return mulLevel, api.Mul
	case "/":
		return mulLevel, api.Quo
	case "%":
		return mulLevel, api.Rem
	}
	return 0, api.NoCode
}

// isKeyword tells whether a name stands for no column, whatever the columns are.
func isKeyword(name string) bool {
	switch name {
	case "and", "or", "not", "len":
		return true
	}
	return false
}

func (p *parser) digitsFollow() bool {
	return p.at+1 < len(p.tokens) && p.tokens[p.at+1].Kind == lex.Digits
}

// prefix is an operator ahead of its one operand.
func (p *parser) prefix(c api.Code, operand func()) {
	p.within(operand)
	p.add(api.Op{Code: c})
}

// group is what stands between "(" and ")".
func (p *parser) group() {
	p.within(p.either)
	switch p.next().Text {
	case ")":
		p.at++
	case "":
		panic(api.ErrEnd)
	default:
		panic(api.ErrForm)
	}
}

// within is what the next token contains. How deep that may go is bounded, since each depth takes room on the stack.
func (p *parser) within(content func()) {
	if p.depth == maxDepth {
		panic(api.ErrLong)
	}
	p.depth++
	p.at++
	content()
	p.depth--
}

func (p *parser) number(text string) {
	n, e := num.Read(text)
	if e != api.OK {
		panic(e)
	}
	p.at++
	p.add(api.Op{Code: api.Num, Num: n})
}

func (p *parser) quote(text string) {
	v, e := value.Parse(text)
	if e != api.OK {
		panic(e)
	}
	p.at++
	p.add(api.Op{Code: api.Str, Text: v.Text})
}

func (p *parser) column(name string) {
	place := schema.Index(p.schema, name)
	if place < 0 {
		panic(api.ErrNone)
	}
	p.at++
	p.add(api.Op{Code: api.Get, Num: place})
}
