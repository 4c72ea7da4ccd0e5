package syntax

import "scullion/api"

// construct parses a command from the token on with which it begins, but no redirections behind it.
type construct func(*parser) api.Node

// constructs returns the constructs by the tokens with which they begin.
func constructs() map[api.Token]construct {
	return map[api.Token]construct{
		{Kind: api.Op, Text: "("}:       (*parser).sub,
		{Kind: api.Word, Text: "{"}:     (*parser).group,
		{Kind: api.Word, Text: "if"}:    (*parser).choice,
		{Kind: api.Word, Text: "while"}: (*parser).while,
		{Kind: api.Word, Text: "until"}: (*parser).while,
		{Kind: api.Word, Text: "for"}:   (*parser).each,
		{Kind: api.Word, Text: "case"}:  (*parser).cases,
	}
}

// sub parses a list in parentheses.
func (p *parser) sub() api.Node {
	p.expect("(")
	node := api.Node{Kind: api.Sub, Kids: []api.Node{p.inner()}}
	p.expect(")")
	return node
}

// group parses a list in braces.
func (p *parser) group() api.Node {
	p.expect("{")
	node := api.Node{Kind: api.Group, Kids: []api.Node{p.inner()}}
	p.expect("}")
	return node
}

// choice parses a command that begins with `if`, or what begins with an `elif` in it.
func (p *parser) choice() api.Node {
	p.skip()
	node := api.Node{Kind: api.If}
	node.Kids = append(node.Kids, p.inner())
	p.expect("then")
	node.Kids = append(node.Kids, p.inner())
	if p.at("elif") {
		// The `fi` of the choice within is that of this one.
		node.Kids = append(node.Kids, p.deeper(p.elif))
		return node
	}
	if p.accept("else") {
		node.Kids = append(node.Kids, p.inner())
	}
	p.expect("fi")
	return node
}

// elif parses what begins with `elif`, which stands in a list of its own.
func (p *parser) elif() api.Node {
	check(p.depth <= api.MaxDepth, api.ErrLong)
	return api.Node{Kind: api.List, Kids: []api.Node{p.choice()}}
}

// while parses a command that begins with `while` or `until`.
func (p *parser) while() api.Node {
	node := api.Node{Kind: api.While, Name: p.take()}
	node.Kids = append(node.Kids, p.inner())
	node.Kids = append(node.Kids, p.body())
	return node
}

// each parses a command that begins with `for`.
func (p *parser) each() api.Node {
	p.expect("for")
	node := api.Node{Kind: api.For, Name: p.name()}
	p.skipLines()
	if p.at("in") {
		node.Ops = []string{p.take()}
		for p.atWord() {
			node.Words = append(node.Words, p.word())
		}
		check(p.skipEnd(), api.ErrSyntax)
	} else {
		p.skipEnd()
	}
	node.Kids = []api.Node{p.body()}
	return node
}

// body parses a list between `do` and `done`.
func (p *parser) body() api.Node {
	p.expect("do")
	list := p.inner()
	p.expect("done")
	return list
}

// cases parses a command that begins with `case`.
func (p *parser) cases() api.Node {
	p.expect("case")
	node := api.Node{Kind: api.Case, Words: [][]api.Part{p.word()}}
	p.skipLines()
	p.expect("in")
	p.skipLines()
	for !p.at("esac") {
		node.Kids = append(node.Kids, p.item())
		// Line ends between an item without `;;` and `esac` were taken with the list of the item.
		if !p.accept(";;") {
			break
		}
		p.skipLines()
	}
	p.expect("esac")
	return node
}

// item parses an item of a case, without what separates it from the next one.
func (p *parser) item() api.Node {
	node := api.Node{Kind: api.Item}
	p.accept("(")
	node.Words = append(node.Words, p.word())
	for p.accept("|") {
		node.Words = append(node.Words, p.word())
	}
	p.expect(")")
	node.Kids = []api.Node{p.deeper(p.list)}
	return node
}
