package syntax_test

import (
	"slices"
	"strings"
	"testing"

	"scullion/api"
	"scullion/lexer"
	"scullion/syntax"
	"scullion/word"
)

// numbers returns a function that returns the same sequence of numbers in every run.
func numbers(seed int) func(below int) int {
	state := uint64(seed)
	return func(below int) int {
		state = state*6364136223846793005 + 1442695040888963407
		return int(state>>33) % below
	}
}

// maker makes the tokens of a script, and the tree that they must have.
type maker struct {
	next   func(below int) int
	tokens []string
	depth  int // how many commands may still stand in one another
}

// someScript returns the tokens of a script and its tree.
func someScript(next func(int) int) ([]string, api.Node) {
	m := maker{next: next, depth: next(5)}
	node := api.Node{Kind: api.List}
	m.lines()
	if next(20) > 0 {
		node = m.list(false)
	}
	return m.tokens, node
}

// put adds tokens.
func (m *maker) put(tokens ...string) { m.tokens = append(m.tokens, tokens...) }

// maybe adds tokens or not, and tells whether it did.
func (m *maker) maybe(tokens ...string) bool {
	added := m.next(2) == 0
	if added {
		m.put(tokens...)
	}
	return added
}

// long tells whether no more commands should begin than have to.
func (m *maker) long() bool { return len(m.tokens) > 40 }

// lines adds some line ends, or none.
func (m *maker) lines() {
	for m.next(3) == 0 {
		m.put("\n")
	}
}

// end adds a `;` or a line end, and some line ends.
func (m *maker) end() {
	m.put([]string{";", "\n"}[m.next(2)])
	m.lines()
}

// wordTexts are texts of words that may stand anywhere.
var wordTexts = []string{"a", "b", "c1", "-n", "'d e'", `"f $g"`, `\h`, "$i", "${j}", "${k:-l m}", "$(n; o)", "$((1 + 2))", "p'q'\"r\"", "''", "*", "1", "=", "1=2", "'s'=t", "u-v=w", "{x}", "in_", "'if'", "!a"}

// laterTexts are texts of words that mean something at the beginning of a command.
var laterTexts = []string{"if", "then", "elif", "else", "fi", "do", "done", "while", "until", "for", "case", "esac", "{", "}", "!", "a=1", "b=", "c='d e'"}

// text adds a word, which may be any one, and returns its text.
func (m *maker) text() string {
	all := slices.Concat(wordTexts, laterTexts, []string{"in"})
	text := all[m.next(len(all))]
	m.put(text)
	return text
}

// word adds a word, which may be any one, and returns its parts.
func (m *maker) word() []api.Part { return parts(m.text()) }

// parts returns the parts of a text, which must have some.
func parts(text string) []api.Part {
	l, f := word.Parse(text)
	if f != api.OK {
		panic(text)
	}
	return l
}

func (m *maker) name() string {
	name := []string{"x", "_Y9", "in", "longer_name"}[m.next(4)]
	m.put(name)
	return name
}

// list adds a list, which must be ended if the word that follows could belong to it.
func (m *maker) list(ended bool) api.Node {
	node := api.Node{Kind: api.List}
	m.lines()
	for {
		kid, open := m.andOr()
		node.Kids = append(node.Kids, kid)
		if m.long() || m.next(2) == 0 {
			if ended && open || m.next(2) == 0 {
				m.end()
			}
			return node
		}
		m.end()
	}
}

// kid adds a list one level deeper.
func (m *maker) kid(ended bool) api.Node {
	m.depth--
	list := m.list(ended)
	m.depth++
	return list
}

// andOr adds an and-or, and tells whether a word behind it would belong to it.
func (m *maker) andOr() (api.Node, bool) {
	node := api.Node{Kind: api.AndOr}
	for {
		kid, open := m.pipe()
		node.Kids = append(node.Kids, kid)
		if m.next(3) > 0 && len(node.Kids) == 1 {
			return kid, open
		} else if len(node.Kids) > 1 && m.next(2) == 0 {
			return node, open
		}
		op := []string{"&&", "||"}[m.next(2)]
		node.Ops = append(node.Ops, op)
		m.put(op)
		m.lines()
	}
}

func (m *maker) pipe() (api.Node, bool) {
	node := api.Node{Kind: api.Pipe}
	if m.next(5) == 0 {
		node.Not = m.maybe("!")
	}
	for {
		kid := m.command()
		node.Kids = append(node.Kids, kid)
		open := kid.Kind == api.Simple
		if m.next(3) > 0 && len(node.Kids) == 1 && !node.Not {
			return kid, open
		} else if (len(node.Kids) > 1 || node.Not) && m.next(2) == 0 {
			return node, open
		}
		m.put("|")
		m.lines()
	}
}

func (m *maker) command() api.Node {
	if m.depth <= 0 || m.long() || m.next(3) == 0 {
		return m.simple()
	}
	if m.depth > 1 && m.next(8) == 0 {
		node := api.Node{Kind: api.Func, Name: m.name()}
		m.put("(", ")")
		m.lines()
		m.depth--
		node.Kids = []api.Node{m.construct()}
		m.depth++
		return node
	}
	return m.construct()
}

func (m *maker) redir() api.Redir {
	op := []string{"<", ">", ">>"}[m.next(3)]
	m.put(op)
	return api.Redir{Op: op, Word: m.word()}
}

func (m *maker) redirs() (l []api.Redir) {
	for m.next(4) == 0 {
		l = append(l, m.redir())
	}
	return l
}

func (m *maker) simple() api.Node {
	node := api.Node{Kind: api.Simple, Redirs: m.redirs()}
	for m.next(4) == 0 {
		name := m.name()
		value := []string{"", "1", "'a b'", "$c", "=", "d=e", `"$f"`, "$(g h)", "if"}[m.next(9)]
		m.tokens[len(m.tokens)-1] = name + "=" + value
		node.Assigns = append(node.Assigns, api.Assign{Name: name, Value: parts(value)})
		node.Redirs = append(node.Redirs, m.redirs()...)
	}
	if len(node.Redirs)+len(node.Assigns) > 0 && m.next(3) == 0 {
		return node
	}
	first := wordTexts[m.next(len(wordTexts))]
	if len(node.Redirs)+len(node.Assigns) > 0 && m.next(3) == 0 {
		// The first word is not the beginning of the command.
		first = []string{"if", "then", "{", "}", "!", "esac", "for"}[m.next(7)]
	}
	m.put(first)
	node.Words = append(node.Words, parts(first))
	for m.next(3) > 0 {
		node.Redirs = append(node.Redirs, m.redirs()...)
		node.Words = append(node.Words, m.word())
	}
	node.Redirs = append(node.Redirs, m.redirs()...)
	return node
}

// construct adds a command that is neither a simple one nor a function.
func (m *maker) construct() api.Node {
	var node api.Node
	switch m.next(6) {
	case 0:
		m.put("(")
		node = api.Node{Kind: api.Sub, Kids: []api.Node{m.kid(false)}}
		m.put(")")
	case 1:
		m.put("{")
		node = api.Node{Kind: api.Group, Kids: []api.Node{m.kid(true)}}
		m.put("}")
	case 2:
		m.put("if")
		node = m.choice()
	case 3:
		node = api.Node{Kind: api.While, Name: []string{"while", "until"}[m.next(2)]}
		m.put(node.Name)
		node.Kids = append(node.Kids, m.kid(true))
		node.Kids = append(node.Kids, m.body())
	case 4:
		node = m.each()
	default:
		node = m.cases()
	}
	node.Redirs = m.redirs()
	return node
}

// choice adds what is behind an `if` or an `elif`.
func (m *maker) choice() api.Node {
	node := api.Node{Kind: api.If}
	node.Kids = append(node.Kids, m.kid(true))
	m.put("then")
	node.Kids = append(node.Kids, m.kid(true))
	switch m.next(3) {
	case 0:
		m.put("elif")
		m.depth--
		node.Kids = append(node.Kids, api.Node{Kind: api.List, Kids: []api.Node{m.choice()}})
		m.depth++
		return node
	case 1:
		m.put("else")
		node.Kids = append(node.Kids, m.kid(true))
	}
	m.put("fi")
	return node
}

func (m *maker) body() api.Node {
	m.put("do")
	list := m.kid(true)
	m.put("done")
	return list
}

func (m *maker) each() api.Node {
	m.put("for")
	node := api.Node{Kind: api.For, Name: m.name()}
	m.lines()
	if m.maybe("in") {
		node.Ops = []string{"in"}
		for m.next(3) > 0 {
			node.Words = append(node.Words, m.word())
		}
		m.end()
	} else if m.maybe(";") {
		m.lines()
	}
	node.Kids = []api.Node{m.body()}
	return node
}

func (m *maker) cases() api.Node {
	m.put("case")
	node := api.Node{Kind: api.Case, Words: [][]api.Part{m.word()}}
	m.lines()
	m.put("in")
	m.lines()
	for more := m.next(4) > 0; more; {
		item := api.Node{Kind: api.Item}
		first := m.maybe("(")
		text := m.text()
		if !first && text == "esac" {
			text = "'esac'"
			m.tokens[len(m.tokens)-1] = text
		}
		item.Words = append(item.Words, parts(text))
		for m.next(3) == 0 {
			m.put("|")
			item.Words = append(item.Words, m.word())
		}
		m.put(")")
		more = m.next(2) == 0
		ends := more || m.next(2) == 0 // with `;;`
		list := api.Node{Kind: api.List}
		if m.next(3) == 0 {
			m.lines()
		} else {
			list = m.kid(!ends)
		}
		item.Kids = []api.Node{list}
		node.Kids = append(node.Kids, item)
		if ends {
			m.put(";;")
		}
		m.lines()
	}
	m.put("esac")
	return node
}

// laidOut returns a script with the given tokens, with blanks between them where they are needed and comments before line ends.
func laidOut(next func(int) int, tokens []string) string {
	var b strings.Builder
	for i, token := range tokens {
		if i > 0 && !apart(tokens[i-1], token) || next(3) == 0 {
			b.WriteString([]string{" ", "\t", "  "}[next(3)])
		}
		if token == "\n" && next(4) == 0 {
			b.WriteString([]string{" #", " # a", "\t# ' ; }"}[next(3)])
		}
		b.WriteString(token)
	}
	return b.String()
}

// apart tells whether two tokens are two without anything between them.
func apart(a, b string) bool {
	isOp := func(token string) bool { return strings.Contains("\n;|&()<>", token[:1]) }
	return a == "\n" || b == "\n" || isOp(a) != isOp(b)
}

// TestMadeScripts holds the trees of scripts that were made together with them.
func TestMadeScripts(t *testing.T) {
	kinds := map[int]int{}
	var count func(api.Node)
	count = func(n api.Node) {
		kinds[n.Kind]++
		for _, kid := range n.Kids {
			count(kid)
		}
	}
	for seed := range 15000 {
		next := numbers(seed)
		tokens, want := someScript(next)
		script := laidOut(next, tokens)
		if len(script) > api.MaxSource {
			continue
		}
		count(want)
		if got, f := syntax.Parse(script); f != api.OK || !same(got, want) {
			t.Fatalf("I1: %q: %s and %d, want %s", script, told(got), f, told(want))
		}
	}
	for kind, name := range kindNames {
		if kinds[kind] < 1000 {
			t.Errorf("I1: only %d nodes are of the kind %s", kinds[kind], name)
		}
	}
}

// TestAlteredScripts holds scripts in which tokens were removed, added, replaced and exchanged against the grammar.
func TestAlteredScripts(t *testing.T) {
	g := newGrammar()
	counts := map[api.Errno]int{}
	others := slices.Concat(wordTexts, laterTexts, []string{"in", "x", "\n", "\n", ";", ";;", "&", "|", "&&", "||", "(", ")", "<", ">", ">>", "${}", "${}", "${}", "y=${}", ";", ";", "(", ")"})
	for seed := range 20000 {
		next := numbers(seed)
		tokens, _ := someScript(next)
		if len(tokens) == 0 || len(tokens) > 60 {
			continue
		}
		for range 1 + next(3) {
			at, other := next(len(tokens)), others[next(len(others))]
			switch next(4) {
			case 0:
				tokens = slices.Delete(tokens, at, at+1)
			case 1:
				tokens = slices.Insert(tokens, at, other)
			case 2:
				tokens[at] = other
			case 3:
				to := next(len(tokens))
				tokens[at], tokens[to] = tokens[to], tokens[at]
			}
			if len(tokens) == 0 {
				break
			}
		}
		counts[checkGrammar(t, g, strings.Join(tokens, " "))]++
	}
	if counts[api.OK] < 1000 || counts[api.ErrSyntax] < 1000 || counts[api.ErrWord] < 300 {
		t.Errorf("I1: only so many scripts have the errors: %v", counts)
	}
}

// TestAnyBytes has scripts of pieces that needn't be tokens.
func TestAnyBytes(t *testing.T) {
	g := newGrammar()
	pieces := slices.Concat(wordTexts, laterTexts, []string{" ", " ", " ", "\t", "\n", ";", "&", "|", "(", ")", "<", ">", "#", "'", `"`, `\`, "$", "${", "$(", "}", "=", "\x00", "\xff", "é"})
	for seed := range 20000 {
		next := numbers(seed)
		var b strings.Builder
		for range 1 + next(12) {
			b.WriteString(pieces[next(len(pieces))])
		}
		checkGrammar(t, g, b.String())
	}
	for i := range 256 {
		c := string([]byte{byte(i)})
		for _, script := range []string{c, c + c, "a" + c + "b", "a " + c + " b", c + "=1 a", "x" + c + "=1 a", "x" + c + "() { a; }", "for x" + c + " do a; done", "for " + c + " do a; done", "\\" + c + " a", "'" + c + "'"} {
			checkGrammar(t, g, script)
		}
	}
}

// tokensOf returns the tokens of a script, which must have some.
func tokensOf(t *testing.T, script string) []api.Token {
	t.Helper()
	tokens, f := lexer.Tokens(script)
	if f != api.OK {
		t.Fatalf("%q has the error %d", script, f)
	}
	return tokens
}
