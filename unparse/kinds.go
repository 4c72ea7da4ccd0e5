package unparse

import (
	"strings"

	"scullion/api"
	"scullion/word"
)

// kinds is the number of the Kinds of nodes.
const kinds = api.Func + 1

// maker makes the text of a node of one Kind.
type maker func(n *api.Node) []piece

// makers returns the function of each Kind.
func makers() [kinds]maker {
	return [kinds]maker{
		api.Simple: simple,
		api.Pipe:   pipe,
		api.AndOr:  andOr,
		api.List:   list,
		api.Group:  group,
		api.Sub:    sub,
		api.If:     choice,
		api.While:  while,
		api.For:    each,
		api.Case:   cases,
		api.Item:   item,
		api.Func:   function,
	}
}

func simple(n *api.Node) []piece {
	var texts []string
	for _, redir := range n.Redirs {
		texts = append(texts, redirection(redir))
	}
	for _, assign := range n.Assigns {
		texts = append(texts, assign.Name+"="+word.Print(assign.Value))
	}
	texts = append(texts, words(n)...)
	return []piece{text(strings.Join(texts, " "))}
}

func pipe(n *api.Node) []piece {
	pieces := kidsBetween(n, func(int) string { return " | " })
	if n.Not {
		return append([]piece{text("! ")}, pieces...)
	}
	return pieces
}

func andOr(n *api.Node) []piece {
	return kidsBetween(n, func(i int) string {
		if i < len(n.Ops) {
			return " " + n.Ops[i] + " "
		}
		return "  "
	})
}

func list(n *api.Node) []piece {
	return kidsBetween(n, func(int) string { return "; " })
}

func item(n *api.Node) []piece {
	patterns := strings.Join(words(n), " | ")
	return []piece{text("( " + patterns + " ) "), kid(n, 0), text(";;")}
}

func function(n *api.Node) []piece {
	return []piece{text(n.Name + "() "), kid(n, 0)}
}

func group(n *api.Node) []piece {
	return redirected(n, text("{ "), kid(n, 0), text("; }"))
}

func sub(n *api.Node) []piece {
	return redirected(n, text("( "), kid(n, 0), text(" )"))
}

func choice(n *api.Node) []piece {
	pieces := []piece{text("if "), kid(n, 0), text("; then "), kid(n, 1), text("; ")}
	if len(n.Kids) > 2 {
		pieces = append(pieces, text("else "), kid(n, 2), text("; "))
	}
	return redirected(n, append(pieces, text("fi"))...)
}

func while(n *api.Node) []piece {
	return redirected(n, text(n.Name+" "), kid(n, 0), text("; do "), kid(n, 1), text("; done"))
}

func each(n *api.Node) []piece {
	head := []string{"for " + n.Name}
	if len(n.Ops) > 0 {
		head = append(append(head, "in"), words(n)...)
	}
	return redirected(n, text(strings.Join(head, " ")), text("; do "), kid(n, 0), text("; done"))
}

func cases(n *api.Node) []piece {
	subject := ""
	if len(n.Words) > 0 {
		subject = word.Print(n.Words[0])
	}
	pieces := []piece{text("case " + subject + " in ")}
	for i := range n.Kids {
		pieces = append(pieces, kid(n, i), text(" "))
	}
	return redirected(n, append(pieces, text("esac"))...)
}

// kidsBetween returns the texts of a node's kids, and behind the i-th of them, unless it is the last, what between returns for i.
func kidsBetween(n *api.Node, between func(i int) string) []piece {
	var pieces []piece
	for i := range n.Kids {
		if i > 0 {
			pieces = append(pieces, text(between(i-1)))
		}
		pieces = append(pieces, kid(n, i))
	}
	return pieces
}

// redirected returns the pieces of a node's text with its redirections behind them.
func redirected(n *api.Node, pieces ...piece) []piece {
	for _, redir := range n.Redirs {
		pieces = append(pieces, text(" "+redirection(redir)))
	}
	return pieces
}

// redirection returns the text of a redirection.
func redirection(r api.Redir) string { return r.Op + " " + word.Print(r.Word) }

// words returns the texts of a node's words.
func words(n *api.Node) []string {
	var texts []string
	for _, parts := range n.Words {
		texts = append(texts, word.Print(parts))
	}
	return texts
}
