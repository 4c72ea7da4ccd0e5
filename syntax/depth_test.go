package syntax_test

import (
	"strings"
	"testing"

	"scullion/api"
	"scullion/syntax"
)

// nest is what stands before and behind a command that is so many levels deeper than the nest.
type nest struct {
	before, behind string
	levels         int
}

// nests are the places of a command in another one.
var nests = []nest{
	{"{ ", "; }", 1},
	{"( ", " )", 1},
	{"b && ( ", " ) | b", 1},
	{"! b | { ", "; } > b", 1},
	{"if ", "; then b; fi", 1},
	{"if b; then ", "; fi", 1},
	{"if b; then b; else ", "; fi", 1},
	{"if b; then b; elif ", "; then b; fi", 2},
	{"if b; then b; elif b; then ", "; fi", 2},
	{"if b; then b; elif b; then b; else ", "; fi", 2},
	{"while ", "; do b; done", 1},
	{"while b; do ", "; done", 1},
	{"until ", "; do b; done", 1},
	{"until b; do ", "; done", 1},
	{"for x in b; do ", "; done", 1},
	{"for x do ", "; done", 1},
	{"case b in b) ", ";; esac", 1},
	{"case b in (b) b;; b|c) ", "; esac", 1},
	{"f() { ", "; }", 2},
	{"f() ( ", " )", 2},
	{"f() if b; then ", "; fi", 2},
}

// around returns a command in a nest, so many times.
func (n nest) around(times int, command string) string {
	return strings.Repeat(n.before, times) + command + strings.Repeat(n.behind, times)
}

// checkDepth fails unless a script whose deepest command has a depth is refused exactly if that is too deep.
func checkDepth(t *testing.T, script string, depth int) {
	t.Helper()
	if depth > 30 {
		checkError(t, "I1", script, api.ErrLong)
	} else if got, f := syntax.Parse(script); f != api.OK {
		t.Errorf("I1: %.300q with the depth %d: %.300s and %d", script, depth, told(got), f)
	}
}

func TestDepth(t *testing.T) {
	for _, n := range nests {
		for times := range 35 {
			script := n.around(times, "a")
			checkDepth(t, script, 1+times*n.levels)
			checkDepth(t, "{ "+script+"; }", 2+times*n.levels)
			checkDepth(t, "c; "+script+"; c", 1+times*n.levels)
			// A function's command is one level deeper than the function.
			checkDepth(t, n.around(times, "f() (a)"), 3+times*n.levels)
			checkDepth(t, "{ "+n.around(times, "f() (a)")+"; }", 4+times*n.levels)
		}
	}
}

func TestMixedDepth(t *testing.T) {
	deep := [2]int{}
	for seed := range 5000 {
		next := numbers(seed)
		script, depth := "a", 1
		for goal := 26 + next(8); depth < goal; {
			n := nests[next(len(nests))]
			script, depth = n.before+script+n.behind, depth+n.levels
		}
		checkDepth(t, script, depth)
		if depth > 30 {
			deep[1]++
		} else {
			deep[0]++
		}
	}
	if deep[0] < 1000 || deep[1] < 1000 {
		t.Errorf("I1: %d scripts are too deep, and %d are not", deep[1], deep[0])
	}
}

// TestDeepTree has the tree of a script whose commands are as deep as they may be.
func TestDeepTree(t *testing.T) {
	for _, c := range []struct{ before, behind, told, toldBehind string }{
		{"{ ", "; }", "(group (list ", "))"},
		{"(", ")", "(sub (list ", "))"},
		{"while a; do ", "; done", "(while name=while (list (simple a)) (list ", "))"},
		{"case a in b) ", "; esac", "(case a (item b (list ", ")))"},
	} {
		checkTree(t, "I1", nest{before: c.before, behind: c.behind}.around(29, "a"), "(list "+strings.Repeat(c.told, 29)+"(simple a)"+strings.Repeat(c.toldBehind, 29)+")")
	}
	choices := "if a; then b; " + strings.Repeat("elif a; then b; ", 28) + "fi"
	told := "(if (list (simple a)) (list (simple b))"
	checkTree(t, "I1", choices, "(list "+told+strings.Repeat(" (list "+told, 28)+strings.Repeat("))", 28)+"))")
	// The lists of an If are one level deeper, and an `elif` is so too.
	checkError(t, "I1", "if a; then b; "+strings.Repeat("elif a; then b; ", 29)+"fi", api.ErrLong)
	checkError(t, "I1", "{ "+choices+"; }", api.ErrLong)
	checkTree(t, "I1", strings.Repeat("(a);", 100)+strings.Repeat("f() (a);", 100), "(list"+strings.Repeat(" (sub (list (simple a)))", 100)+strings.Repeat(" (func name=f (sub (list (simple a))))", 100)+")")
}

// TestBeyondTheDepth has everything that may come where a command at the depth 31 could begin.
func TestBeyondTheDepth(t *testing.T) {
	for _, before := range []string{"( ", "{ ", "if ", "while ", "until ", "for x do ", "for x in a; do ", "case a in b) ", "case a in b) ;; (c|d) "} {
		open := strings.Repeat("{ ", 29) + before
		// Whatever is there, a command would begin.
		for _, token := range []string{"a", "a=1", "'a'", "${}", "> a", "<", ">>", "(", "( a )", "{", "{ }", "{ a; }", "if", "while", "until", "for", "case", "in", "f() a", "f()", ";", "&", "&&", "||", "|", "!", "! a", "! !", "! )", "! then", "! ${}", "! ;", "! \n", "! # b"} {
			checkError(t, "I1", open+token, api.ErrLong)
			checkError(t, "I1", open+token+" ) ${} ;", api.ErrLong)
			checkError(t, "I1", open+"\n\n# c\n"+token+"\n", api.ErrLong)
		}
		// The list ends, so that no command begins.
		for _, token := range []string{"", ")", ";;", "then", "elif", "else", "fi", "do", "done", "esac", "}"} {
			checkError(t, "I1", open+token, api.ErrSyntax)
			checkError(t, "I1", open+"\n\n# c\n"+token, api.ErrSyntax)
			if fits := strings.HasPrefix(before, "case") && token == ";;"; token != "" && !fits {
				checkError(t, "I1", open+token+" ${}", api.ErrSyntax)
			}
		}
	}
	// The list of an item may be empty.
	for _, items := range []string{"esac", "b) esac", "b) ;; esac", "b)\n;; (c)\n\n;; d|e) esac"} {
		script := nests[0].around(29, "case a in "+items)
		if got, f := syntax.Parse(script); f != api.OK {
			t.Errorf("I1: %q: %s and %d", script, told(got), f)
		}
		checkError(t, "I1", nests[0].around(30, "case a in "+items), api.ErrLong)
	}
	checkError(t, "I1", strings.Repeat("{ ", 29)+"case a in b) ;; c) d;; esac ${}", api.ErrLong)
	checkError(t, "I1", strings.Repeat("{ ", 29)+"case a in b) ;; ${}) d;; esac", api.ErrWord)
	checkError(t, "I1", strings.Repeat("{ ", 29)+"case a in b) ;; )", api.ErrSyntax)
}

// TestFunctionsBeyondTheDepth has functions whose command would be at the depth 31, even where nothing follows.
func TestFunctionsBeyondTheDepth(t *testing.T) {
	for groups := range 30 {
		open := strings.Repeat("{ ", groups) + strings.Repeat("f() ", 30-groups)
		for _, behind := range []string{"", "\n", "\n\n# a", "a", "{ a; }", "( a )", "${}", "}", ")", ";", "!", "then", "&", "f", "f(", "f() { a; }"} {
			checkError(t, "I1", open+behind, api.ErrLong)
		}
		shorter := strings.Repeat("{ ", groups) + strings.Repeat("f() ", 29-groups)
		if groups == 29 {
			checkError(t, "I1", shorter+"f(", api.ErrSyntax)
			checkError(t, "I1", shorter+"f(a", api.ErrSyntax)
			continue
		}
		checkError(t, "I1", shorter, api.ErrSyntax)
		checkError(t, "I1", shorter+"a", api.ErrSyntax)
		checkError(t, "I1", shorter+"a ${}", api.ErrWord)
		checkError(t, "I1", shorter+"f(", api.ErrSyntax)
		checkError(t, "I1", shorter+"f() ", api.ErrLong)
		checkError(t, "I1", shorter+"{ a", api.ErrLong)
		checkError(t, "I1", shorter+"{ }", api.ErrSyntax)
		checkError(t, "I1", shorter+"( ", api.ErrSyntax)
		checkError(t, "I1", shorter+"case a in b) c", api.ErrLong)
	}
	checkTree(t, "I1", strings.Repeat("{ ", 28)+"f() case a in b) esac"+strings.Repeat("; }", 28), "(list "+strings.Repeat("(group (list ", 28)+"(func name=f (case a (item b (list))))"+strings.Repeat("))", 28)+")")
}

// TestElifAtTheDepth has an `elif` at the depth 30, whose list is too deep if it has a command.
func TestElifAtTheDepth(t *testing.T) {
	open := strings.Repeat("{ ", 28) + "if a; then b; elif "
	for _, behind := range []string{"c", "c; then d; fi", "(", ";", "! ", "${}", "\n&&"} {
		checkError(t, "I1", open+behind, api.ErrLong)
	}
	for _, behind := range []string{"", "\n", "then", "then c; fi", "fi", "}", "elif"} {
		checkError(t, "I1", open+behind, api.ErrSyntax)
	}
	// At the depth 31 it can't be reached, since the list before it must not be empty.
	checkError(t, "I1", strings.Repeat("{ ", 29)+"if a; then b; elif c; then d; fi", api.ErrLong)
	checkError(t, "I1", strings.Repeat("{ ", 29)+"if then elif", api.ErrSyntax)
}

// TestErrorsBeforeTheDepth has an error on the left or on the right of a command that is too deep.
func TestErrorsBeforeTheDepth(t *testing.T) {
	deep := nests[0].around(30, "a")
	for script, want := range map[string]api.Errno{
		"${}; " + deep:        api.ErrWord,
		deep + "; ${}":        api.ErrLong,
		"; " + deep:           api.ErrSyntax,
		") " + deep:           api.ErrSyntax,
		deep + " )":           api.ErrLong,
		deep + "; ;":          api.ErrLong,
		"f() a; " + deep:      api.ErrSyntax,
		"f() " + deep:         api.ErrLong,
		deep[:len(deep)-40]:   api.ErrLong,
		"a | " + deep:         api.ErrLong,
		"a && " + deep + " |": api.ErrLong,
		"! ! " + deep:         api.ErrSyntax,
		"a " + deep:           api.ErrSyntax,
		"a=${} | " + deep:     api.ErrWord,
	} {
		checkError(t, "I1", script, want)
	}
}
