package syntax_test

import (
	"slices"
	"strings"
	"testing"

	"scullion/api"
	"scullion/lexer"
	"scullion/syntax"
	"scullion/word"
)

// grammarText is the grammar of the chapter, as rules: a symbol, and what it may consist of. A symbol that has no rule stands for a token: in quotes, one with that text; WORD, a word; FIRST, one that may begin a simple command; NAME, the name of a variable; FNAME, one that may begin a command; PATTERN, a word that doesn't end a case; NEVER, none. A rule with a star stands for two: in one of them the star is S, for what ends with a simple command, to which a word behind it belongs; in the other one it is C, for what does not.
const grammarText = `
script = list0
list0 = empty | listS | listC
empty = lines
lines = | '\n' lines
list* = lines ands*
ands* = and* | and end lines ands*
listC = lines closed
closed = and end lines | and end lines closed
end = ';' | '\n'
and = andS | andC
and* = pipe* | pipe '&&' lines and* | pipe '||' lines and*
pipe = pipeS | pipeC
pipe* = commands* | '!' commands*
commands* = command* | command '|' lines commands*
command = commandS | commandC
commandS = simple
commandC = compound redirs | FNAME '(' ')' lines compound redirs | FNAME '(' ')' lines refused
refused = refusedfunc NEVER | simple NEVER
refusedfunc = FNAME '(' ')' lines compound redirs | FNAME '(' ')' lines refused
simple = FIRST more | redir more
more = | WORD more | redir more
redirs = | redir redirs
redir = '<' WORD | '>' WORD | '>>' WORD
compound = '(' list ')' | '{' listC '}'
compound = 'if' listC 'then' listC choice
choice = 'fi' | 'else' listC 'fi' | 'elif' listC 'then' listC choice
compound = 'while' listC body | 'until' listC body
body = 'do' listC 'done'
compound = 'for' NAME lines 'in' words end lines body
compound = 'for' NAME lines body | 'for' NAME lines ';' lines body
words = | WORD words
list = listS | listC
compound = 'case' WORD lines 'in' lines items 'esac'
items = | item ';;' lines items | patterns ')' closed0 lines
closed0 = empty | listC
item = patterns ')' list0
patterns = '(' WORD others | PATTERN others
others = | '|' WORD others
`

// rule is a rule of the grammar, with one of the ways to write its symbol.
type rule struct {
	symbol string
	parts  []string
}

// grammar is the rules, and which symbols may stand for nothing.
type grammar struct {
	rules []rule
	of    map[string][]int // the rules by their symbols
	empty map[string]bool
}

// newGrammar reads the rules.
func newGrammar() *grammar {
	g := &grammar{of: map[string][]int{}, empty: map[string]bool{}}
	for _, line := range strings.Split(strings.TrimSpace(grammarText), "\n") {
		ends := []string{""}
		if strings.Contains(line, "*") {
			ends = []string{"S", "C"}
		}
		for _, end := range ends {
			symbol, ways, _ := strings.Cut(strings.ReplaceAll(line, "*", end), " =")
			// A `|` in quotes is no sign of the grammar.
			for _, way := range strings.Split(strings.NewReplacer("'||'", "#2", "'|'", "#1").Replace(ways), "|") {
				parts := strings.Fields(way)
				for i, part := range parts {
					parts[i] = strings.NewReplacer("#2", "'||'", "#1", "'|'", `\n`, "\n").Replace(part)
				}
				g.of[symbol] = append(g.of[symbol], len(g.rules))
				g.rules = append(g.rules, rule{symbol, parts})
			}
		}
	}
	for changed := true; changed; {
		changed = false
		for _, r := range g.rules {
			if !g.empty[r.symbol] && !slices.ContainsFunc(r.parts, func(part string) bool { return !g.empty[part] }) {
				g.empty[r.symbol], changed = true, true
			}
		}
	}
	return g
}

// state is a rule of which so many parts were read since a token.
type state struct{ rule, read, since int }

// column is the states behind a token.
type column struct {
	states []state
	seen   map[state]bool
}

func (c *column) add(s state) {
	if !c.seen[s] {
		c.seen[s] = true
		c.states = append(c.states, s)
	}
}

// recognizer reads tokens one by one, and keeps everything that they may be the beginning of.
type recognizer struct {
	*grammar
	columns []*column
}

func newRecognizer(g *grammar) *recognizer {
	r := &recognizer{grammar: g}
	first := &column{seen: map[state]bool{}}
	for _, i := range g.of["script"] {
		first.add(state{i, 0, 0})
	}
	r.close(first)
	return r
}

// close adds what begins and what ends at a column, and keeps it.
func (r *recognizer) close(c *column) {
	r.columns = append(r.columns, c)
	here := len(r.columns) - 1
	for i := 0; i < len(c.states); i++ {
		s := c.states[i]
		parts := r.rules[s.rule].parts
		if s.read == len(parts) {
			for _, above := range r.columns[s.since].states {
				if p := r.rules[above.rule].parts; above.read < len(p) && p[above.read] == r.rules[s.rule].symbol {
					c.add(state{above.rule, above.read + 1, above.since})
				}
			}
			continue
		}
		for _, k := range r.of[parts[s.read]] {
			c.add(state{k, 0, here})
		}
		if r.empty[parts[s.read]] {
			c.add(state{s.rule, s.read + 1, s.since})
		}
	}
}

// read reads a token, and tells whether it fits.
func (r *recognizer) read(token api.Token) bool {
	next := &column{seen: map[state]bool{}}
	fits := map[string]bool{}
	for _, s := range r.columns[len(r.columns)-1].states {
		parts := r.rules[s.rule].parts
		if s.read == len(parts) || r.of[parts[s.read]] != nil {
			continue
		}
		fit, known := fits[parts[s.read]]
		if !known {
			fit = stands(parts[s.read], token)
			fits[parts[s.read]] = fit
		}
		if fit {
			next.add(state{s.rule, s.read + 1, s.since})
		}
	}
	r.close(next)
	return len(next.states) > 0
}

// unread forgets the last token.
func (r *recognizer) unread() { r.columns = r.columns[:len(r.columns)-1] }

// ended tells whether the tokens are a whole script.
func (r *recognizer) ended() bool {
	return slices.ContainsFunc(r.columns[len(r.columns)-1].states, func(s state) bool {
		return s.since == 0 && r.rules[s.rule].symbol == "script" && s.read == len(r.rules[s.rule].parts)
	})
}

// stands tells whether a symbol of the grammar stands for a token.
func stands(symbol string, token api.Token) bool {
	if strings.HasPrefix(symbol, "'") {
		return token.Text == strings.Trim(symbol, "'")
	}
	if token.Kind != api.Word {
		return false
	}
	begins := strings.Contains(" if while until for case { ", " "+token.Text+" ")
	refused := strings.Contains(" then elif else fi do done esac } ! ", " "+token.Text+" ")
	switch symbol {
	case "WORD":
		return true
	case "PATTERN":
		return token.Text != "esac"
	case "FIRST":
		return !begins && !refused
	case "NAME":
		return isName(token.Text)
	case "FNAME":
		return !begins && !refused && isName(token.Text)
	}
	return false
}

// isName tells whether a text is the name of a variable.
func isName(text string) bool {
	const letters = "ABCDEFGHIJKLMNOPQRSTUVWXYZabcdefghijklmnopqrstuvwxyz_"
	return text != "" && strings.Contains(letters, text[:1]) && strings.Trim(text, letters+"0123456789") == ""
}

// badWord tells whether a token is a word that has an error.
func badWord(token api.Token) bool {
	_, f := word.Parse(token.Text)
	return token.Kind == api.Word && f != api.OK
}

// wanted returns the error of a script whose commands are not too deep.
func wanted(g *grammar, script string) api.Errno {
	tokens, f := lexer.Tokens(script)
	if f != api.OK {
		return f
	}
	r := newRecognizer(g)
	for _, token := range tokens {
		if !r.read(token) {
			return api.ErrSyntax
		}
		if badWord(token) {
			return api.ErrWord
		}
	}
	if !r.ended() {
		return api.ErrSyntax
	}
	return api.OK
}

// checkGrammar fails unless a script has the error that the grammar tells, and returns that error.
func checkGrammar(t *testing.T, g *grammar, script string) api.Errno {
	t.Helper()
	want := wanted(g, script)
	if _, got := syntax.Parse(script); got != want {
		t.Fatalf("I1: %q: %d, want %d", script, got, want)
	}
	return want
}

// TestGrammar has scripts by which the grammar of these tests is held itself.
func TestGrammar(t *testing.T) {
	g := newGrammar()
	for _, cases := range [][]treeCase{listCases, pipeCases, simpleCases, groupCases, ifCases, loopCases, caseCases, functionCases} {
		for _, c := range cases {
			if f := wanted(g, c.script); f != api.OK {
				t.Errorf("the grammar has the error %d for %q", f, c.script)
			}
		}
	}
	for _, scripts := range [][]string{listRefusals, pipeRefusals, simpleRefusals, ifRefusals, loopRefusals, caseRefusals, functionRefusals} {
		for _, script := range scripts {
			if f := wanted(g, script); f != api.ErrSyntax {
				t.Errorf("the grammar has the error %d for %q", f, script)
			}
		}
	}
}

// TestAllShortScripts holds all short scripts of some tokens against the grammar: as long as the tokens fit, each one more is tried.
func TestAllShortScripts(t *testing.T) {
	g := newGrammar()
	for _, c := range []struct {
		start, tokens string
		most          int // how many tokens behind the start
	}{
		{"", "a a=1 'b' ${} in if then elif else fi do done while until for case esac { } ! && || ;; >> ; | & ( ) < > \n", 4},
		{"", "a ! | && || ; ( ) \n", 6},
		{"", "a < > >> { } ( ) ; a=1", 5},
		{"( a )", "a | && ; > ( } \n ${}", 5},
		{"if a ;", "a then elif else fi ; ( ${}", 7},
		{"if a ; then a ; elif", "a then elif else fi ; \n", 7},
		{"if { a ; }", "{ a ; } then else fi", 7},
		{"while", "a until do done ; \n ${}", 7},
		{"until a ;", "a while do done ; > ${}", 6},
		{"for", "x 'x' in do done ; \n ${}", 6},
		{"for x in x", "x 'x' in do done ; \n ${}", 6},
		{"case a", "a in esac ( ) | ;; \n ${}", 6},
		{"case a in", "a { } esac ( ) | ;; ;", 6},
		{"f (", "f ( ) { } ; > ${} a=1 \n", 6},
	} {
		a := alphabet{t: t, counts: map[api.Errno]int{}, r: newRecognizer(g)}
		a.tokens = strings.Split(c.tokens, " ")
		for _, token := range tokensOf(t, c.start) {
			a.r.read(token)
		}
		a.extend(c.start+" ", c.most)
		if a.counts[api.OK] < 50 || a.counts[api.ErrSyntax] < 4000 {
			t.Errorf("I1: only so many scripts of %q behind %q have the errors: %v", c.tokens, c.start, a.counts)
		}
	}
}

// alphabet is tokens of which scripts consist.
type alphabet struct {
	t      *testing.T
	tokens []string
	counts map[api.Errno]int // of scripts, by their errors
	r      *recognizer
}

// extend holds a script that the recognizer has read, and all scripts that begin with it and have so many more tokens at most.
func (a *alphabet) extend(script string, more int) {
	want := api.ErrSyntax
	if a.r.ended() {
		want = api.OK
	}
	a.check(script, want)
	if more == 0 {
		return
	}
	for _, text := range a.tokens {
		longer := script + text + " "
		tokens, _ := lexer.Tokens(text)
		switch {
		case !a.r.read(tokens[0]):
			a.check(longer, api.ErrSyntax)
			a.check(longer+"${}", api.ErrSyntax)
		case badWord(tokens[0]):
			a.check(longer, api.ErrWord)
			a.check(longer+")", api.ErrWord)
		default:
			a.extend(longer, more-1)
		}
		a.r.unread()
	}
}

func (a *alphabet) check(script string, want api.Errno) {
	a.t.Helper()
	if _, got := syntax.Parse(script); got != want {
		a.t.Fatalf("I1: %q: %d, want %d", script, got, want)
	}
	a.counts[want]++
}
