package syntax

import (
	"scullion/api"
	"scullion/word"
)

// parser is a script that is parsed from its beginning on. Each method that parses something takes it off the tokens, or raises an error where these are not as they must be.
type parser struct {
	tokens     []api.Token // those that are still to be parsed
	depth      int         // of the commands that are parsed
	constructs map[api.Token]construct
}

// ended tells whether all tokens were parsed.
func (p *parser) ended() bool { return len(p.tokens) == 0 }

// next returns the next token, or the zero token, which is in no script, if there is none.
func (p *parser) next() api.Token {
	if p.ended() {
		return api.Token{}
	}
	return p.tokens[0]
}

// skip skips the next token.
func (p *parser) skip() { p.tokens = p.tokens[1:] }

// take skips the next token, and returns its text.
func (p *parser) take() string {
	text := p.next().Text
	p.skip()
	return text
}

// at tells whether the next token has a text. No two tokens with one text differ in their kinds.
func (p *parser) at(text string) bool { return p.next().Text == text }

// atWord tells whether the next token is a word.
func (p *parser) atWord() bool { return !p.ended() && p.next().Kind == api.Word }

// accept skips the next token if it has a text, and tells whether it has.
func (p *parser) accept(text string) bool {
	found := p.at(text)
	if found {
		p.skip()
	}
	return found
}

// expect skips the next token, which must have a text.
func (p *parser) expect(text string) {
	check(p.accept(text), api.ErrSyntax)
}

// skipLines skips the line ends that come next.
func (p *parser) skipLines() {
	for p.next().Kind == api.Line {
		p.skip()
	}
}

// skipEnd skips a `;` or a line end, and the line ends behind it, and tells whether there was one of both.
func (p *parser) skipEnd() bool {
	found := p.accept(";") || p.next().Kind == api.Line
	if found {
		p.skipLines()
	}
	return found
}

// word parses a word, and returns its parts.
func (p *parser) word() []api.Part {
	check(p.atWord(), api.ErrSyntax)
	return partsOf(p.take())
}

// name parses a word that is the name of a variable.
func (p *parser) name() string {
	check(isVariable(p.next().Text), api.ErrSyntax)
	return p.take()
}

// deeper returns what is parsed one level deeper.
func (p *parser) deeper(parse func() api.Node) api.Node {
	p.depth++
	node := parse()
	p.depth--
	return node
}

// partsOf returns the parts of a text, or raises the error of layer 8.
func partsOf(text string) []api.Part {
	parts, f := word.Parse(text)
	check(f == api.OK, f)
	return parts
}

// isVariable tells whether a text is the name of a variable.
func isVariable(text string) bool {
	// Layer 8 lets nothing else be set by a parameter in braces.
	parts, f := word.Parse("${" + text + "=}")
	return f == api.OK && len(parts) == 1 && parts[0].Name == text
}
