package syntax

import (
	"strings"

	"scullion/api"
)

// command parses a command.
func (p *parser) command() api.Node {
	check(p.depth <= api.MaxDepth, api.ErrLong)
	if parse, ok := p.constructs[p.next()]; ok {
		node := parse(p)
		for p.atRedirection() {
			node.Redirs = append(node.Redirs, p.redirection())
		}
		return node
	}
	check(!p.atListEnd() && !p.at("!"), api.ErrSyntax)
	if p.atFunction() {
		return p.function()
	}
	return p.simple()
}

// atFunction tells whether the name of a function and a parenthesis come next.
func (p *parser) atFunction() bool {
	return len(p.tokens) > 1 && p.tokens[1].Text == "(" && isVariable(p.next().Text)
}

// function parses a function, whose command must be one of the constructs.
func (p *parser) function() api.Node {
	node := api.Node{Kind: api.Func, Name: p.name()}
	p.expect("(")
	p.expect(")")
	p.skipLines()
	body := p.deeper(p.command)
	check(body.Kind != api.Func && body.Kind != api.Simple, api.ErrSyntax)
	node.Kids = []api.Node{body}
	return node
}

// simple parses a simple command.
func (p *parser) simple() api.Node {
	check(p.atWord() || p.atRedirection(), api.ErrSyntax)
	node := api.Node{Kind: api.Simple}
	for {
		switch {
		case p.atRedirection():
			node.Redirs = append(node.Redirs, p.redirection())
		case len(node.Words) == 0 && p.atAssignment():
			node.Assigns = append(node.Assigns, p.assignment())
		case p.atWord():
			node.Words = append(node.Words, p.word())
		default:
			return node
		}
	}
}

// atAssignment tells whether a word comes next that is an assignment if it comes before all others.
func (p *parser) atAssignment() bool {
	name, _, found := strings.Cut(p.next().Text, "=")
	return found && isVariable(name)
}

// assignment parses an assignment.
func (p *parser) assignment() api.Assign {
	name, value, _ := strings.Cut(p.take(), "=")
	return api.Assign{Name: name, Value: partsOf(value)}
}

// atRedirection tells whether a redirection comes next.
func (p *parser) atRedirection() bool { return p.at("<") || p.at(">") || p.at(">>") }

// redirection parses a redirection.
func (p *parser) redirection() api.Redir {
	op := p.take()
	return api.Redir{Op: op, Word: p.word()}
}
