package arith

import "scullion/api"

// parser is a text that is parsed from its beginning on. Each method that parses something takes it off the text, or raises an error where the text is not as it must be.
type parser struct {
	token string // the next one, or the empty string at the end
	rest  string // the text behind that token
	depth int    // of what is parsed
}

func newParser(s string) *parser {
	p := &parser{rest: s, depth: 1}
	p.skip()
	return p
}

// ended tells whether there are no more tokens.
func (p *parser) ended() bool { return p.token == "" }

// skip skips the next token.
func (p *parser) skip() { p.token, p.rest = cutToken(p.rest) }

// take skips the next token, and returns it.
func (p *parser) take() string {
	token := p.token
	p.skip()
	return token
}

// expect skips the next token, which must be a given one.
func (p *parser) expect(token string) {
	check(p.token == token, api.ErrArith)
	p.skip()
}

// checkDepth raises ErrLong if what begins here is too deep.
func (p *parser) checkDepth() { check(p.depth <= api.MaxDepth, api.ErrLong) }

// deeper returns what is parsed one level deeper.
func (p *parser) deeper(parse func() *expression) *expression {
	p.depth++
	e := parse()
	p.depth--
	return e
}

// whole parses an expression behind which the text must end.
func (p *parser) whole() *expression {
	e := p.expression()
	check(p.ended(), api.ErrArith)
	return e
}

// expression parses an assignment or a conditional.
func (p *parser) expression() *expression {
	p.checkDepth()
	if second, _ := cutToken(p.rest); !isName(p.token) || !assigns(second) {
		return p.conditional()
	}
	name, operator := p.take(), p.take()
	return &expression{kind: assignment, name: name, operator: operator, first: p.deeper(p.expression)}
}

// conditional parses a condition, with both of its alternatives if there are any.
func (p *parser) conditional() *expression {
	condition := p.level(orLevel)
	if p.token != "?" {
		return condition
	}
	p.skip()
	e := &expression{kind: choice, first: condition}
	e.second = p.deeper(p.expression)
	p.expect(":")
	e.third = p.deeper(p.conditional)
	return e
}

// level parses operands of the next level with the operators of a level between them.
func (p *parser) level(number int) *expression {
	if number == operandLevel {
		return p.operand()
	}
	e := p.level(number + 1)
	for levelOf(p.token) == number {
		operator := p.take()
		e = &expression{kind: binary, operator: operator, first: e, second: p.level(number + 1)}
	}
	return e
}

// operand parses what has no binary operator outside of parentheses.
func (p *parser) operand() *expression {
	p.checkDepth()
	switch {
	case isPrefix(p.token):
		operator := p.take()
		return &expression{kind: prefixed, operator: operator, first: p.deeper(p.operand)}
	case p.token == "(":
		p.skip()
		e := p.deeper(p.expression)
		p.expect(")")
		return e
	case isName(p.token):
		return &expression{kind: variable, name: p.take()}
	}
	number, ok := literalValue(p.token)
	check(ok, api.ErrArith)
	p.skip()
	return &expression{kind: literal, number: number}
}
