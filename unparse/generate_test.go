package unparse_test

import (
	"slices"
	"strings"
)

// maker makes the tokens of a script.
type maker struct {
	next   func(below int) int
	tokens []string
	depth  int // how many commands may still stand in one another
}

// someScript returns a script, which has a tree.
func someScript(next func(int) int) string {
	m := maker{next: next, depth: next(5)}
	m.lines()
	if next(20) > 0 {
		m.list()
	}
	return laidOut(next, m.tokens)
}

// put adds tokens.
func (m *maker) put(tokens ...string) { m.tokens = append(m.tokens, tokens...) }

// oneOf adds one of several tokens.
func (m *maker) oneOf(tokens ...string) { m.put(tokens[m.next(len(tokens))]) }

// maybe adds tokens or not, and tells whether it did.
func (m *maker) maybe(tokens ...string) bool {
	added := m.next(2) == 0
	if added {
		m.put(tokens...)
	}
	return added
}

// lines adds some line ends, or none.
func (m *maker) lines() {
	for m.next(3) == 0 {
		m.put("\n")
	}
}

// end adds a `;` or a line end, and some line ends.
func (m *maker) end() {
	m.oneOf(";", "\n")
	m.lines()
}

// long tells whether no more commands should begin than have to.
func (m *maker) long() bool { return len(m.tokens) > 40 }

// firstTexts are texts of words that may begin a simple command.
var firstTexts = []string{"a", "b", "c1", "-n", "'d e'", `"f $g"`, `\h`, "$i", "${j}", "${k:-l m}", "$(n; o)", "$((1 + 2))", "p'q'\"r\"", "''", `""`, "*", "1", "=", "1=2", "'s'=t", "u-v=w", "{x}", "in_", "'if'", `\if`, "!a", "a#b", `\#`, "it\\'s", `"${x:-"y"}"`, "${x#'a b'}", `"${#x}$*"`, "$$a", `\a=1`, "$1a", `"a\$b"`, "\\\n", "'\n'", "é\xff", `"$(a "b")"`, "${x:=${y:-z}}"}

// otherTexts are texts of words that mean something at the beginning of a command.
var otherTexts = []string{"if", "then", "elif", "else", "fi", "do", "done", "while", "until", "for", "case", "esac", "{", "}", "!", "a=1", "b=", "c='d e'", "in"}

func (m *maker) word() { m.oneOf(slices.Concat(firstTexts, otherTexts)...) }

func (m *maker) name() { m.oneOf("x", "_Y9", "in", "longer_name") }

// list adds a list, behind which any token may stand.
func (m *maker) list() {
	m.lines()
	m.andOr()
	for !m.long() && m.next(2) == 0 {
		m.end()
		m.andOr()
	}
	m.end()
}

// kid adds a list one level deeper.
func (m *maker) kid() {
	m.depth--
	m.list()
	m.depth++
}

func (m *maker) andOr() {
	m.pipe()
	for m.next(3) == 0 {
		m.oneOf("&&", "||")
		m.lines()
		m.pipe()
	}
}

func (m *maker) pipe() {
	if m.next(6) == 0 {
		m.put("!")
	}
	m.command()
	for m.next(3) == 0 {
		m.put("|")
		m.lines()
		m.command()
	}
}

func (m *maker) command() {
	switch {
	case m.depth <= 0 || m.long() || m.next(3) == 0:
		m.simple()
	case m.depth > 1 && m.next(6) == 0:
		m.name()
		m.put("(", ")")
		m.lines()
		m.depth--
		m.construct()
		m.depth++
	default:
		m.construct()
	}
}

func (m *maker) redirs() {
	for m.next(4) == 0 {
		m.oneOf("<", ">", ">>")
		m.word()
	}
}

func (m *maker) simple() {
	before := len(m.tokens)
	m.redirs()
	for m.next(4) == 0 {
		m.name()
		value := []string{"", "1", "'a b'", "$c", "=", "d=e", `"$f"`, "$(g h)", "if", `\g`, "~"}[m.next(11)]
		m.tokens[len(m.tokens)-1] += "=" + value
		m.redirs()
	}
	switch first := len(m.tokens) == before; {
	case !first && m.next(3) == 0:
		return
	case !first && m.next(2) == 0:
		// Behind something else it is a word as any other.
		m.oneOf("if", "then", "{", "}", "!", "esac", "for")
	default:
		m.oneOf(firstTexts...)
	}
	for m.next(3) > 0 {
		m.redirs()
		m.word()
	}
	m.redirs()
}

// construct adds a command that is neither a simple one nor a function.
func (m *maker) construct() {
	switch m.next(6) {
	case 0:
		m.put("(")
		m.kid()
		m.put(")")
	case 1:
		m.put("{")
		m.kid()
		m.put("}")
	case 2:
		m.put("if")
		m.choice()
	case 3:
		m.oneOf("while", "until")
		m.kid()
		m.body()
	case 4:
		m.each()
	default:
		m.cases()
	}
	m.redirs()
}

// choice adds what is behind an `if` or an `elif`.
func (m *maker) choice() {
	m.kid()
	m.put("then")
	m.kid()
	switch m.next(3) {
	case 0:
		m.put("elif")
		m.depth--
		m.choice()
		m.depth++
		return
	case 1:
		m.put("else")
		m.kid()
	}
	m.put("fi")
}

func (m *maker) body() {
	m.put("do")
	m.kid()
	m.put("done")
}

func (m *maker) each() {
	m.put("for")
	m.name()
	m.lines()
	if m.maybe("in") {
		for m.next(3) > 0 {
			m.word()
		}
		m.end()
	} else if m.maybe(";") {
		m.lines()
	}
	m.body()
}

func (m *maker) cases() {
	m.put("case")
	m.word()
	m.lines()
	m.put("in")
	m.lines()
	for more := m.next(4) > 0; more; {
		first := m.maybe("(")
		m.word()
		if !first && m.tokens[len(m.tokens)-1] == "esac" {
			m.tokens[len(m.tokens)-1] = "'esac'"
		}
		for m.next(3) == 0 {
			m.put("|")
			m.word()
		}
		m.put(")")
		if m.next(3) == 0 {
			m.lines()
		} else {
			m.kid()
		}
		more = m.next(2) == 0
		if more || m.next(2) == 0 {
			m.put(";;")
		}
		m.lines()
	}
	m.put("esac")
}

// laidOut returns a script with the given tokens, with blanks between them where they are needed and comments before line ends.
func laidOut(next func(int) int, tokens []string) string {
	isOp := func(token string) bool { return strings.Contains("\n;|&()<>", token[:1]) }
	var b strings.Builder
	for i, token := range tokens {
		if i > 0 && token != "\n" && tokens[i-1] != "\n" && isOp(tokens[i-1]) == isOp(token) || next(3) == 0 {
			b.WriteString([]string{" ", "\t", "  "}[next(3)])
		}
		if token == "\n" && next(4) == 0 {
			b.WriteString([]string{" #", " # a", "\t# ' ; }"}[next(3)])
		}
		b.WriteString(token)
	}
	return b.String()
}
