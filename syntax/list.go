package syntax

import "scullion/api"

// list parses a list, which may be empty.
func (p *parser) list() api.Node {
	list := api.Node{Kind: api.List}
	p.skipLines()
	for !p.atListEnd() {
		list.Kids = append(list.Kids, p.andOr())
		if !p.skipEnd() {
			break
		}
	}
	return list
}

// atListEnd tells whether a list ends before the next token, where an and-or could begin.
func (p *parser) atListEnd() bool {
	switch p.next().Text {
	case ")", ";;", "then", "elif", "else", "fi", "do", "done", "esac", "}":
		return true
	}
	return p.ended()
}

// inner parses a list in a command, which must not be empty.
func (p *parser) inner() api.Node {
	list := p.deeper(p.list)
	check(len(list.Kids) > 0, api.ErrSyntax)
	return list
}

// andOr parses pipes with `&&` or `||` between them, or one pipe alone, which stands for itself.
func (p *parser) andOr() api.Node {
	node := api.Node{Kind: api.AndOr}
	node.Kids = append(node.Kids, p.pipe())
	for p.at("&&") || p.at("||") {
		node.Ops = append(node.Ops, p.take())
		p.skipLines()
		node.Kids = append(node.Kids, p.pipe())
	}
	if len(node.Kids) == 1 {
		return node.Kids[0]
	}
	return node
}

// pipe parses commands with `|` between them, or one command alone, which stands for itself unless a `!` is before it.
func (p *parser) pipe() api.Node {
	node := api.Node{Kind: api.Pipe, Not: p.accept("!")}
	node.Kids = append(node.Kids, p.command())
	for p.accept("|") {
		p.skipLines()
		node.Kids = append(node.Kids, p.command())
	}
	if len(node.Kids) == 1 && !node.Not {
		return node.Kids[0]
	}
	return node
}
