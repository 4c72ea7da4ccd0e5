package syntax_test

import (
	"strings"
	"testing"

	"scullion/api"
)

var groupCases = []treeCase{
	{"(a;b)", "(list (sub (list (simple a) (simple b))))"},
	{"{ a;b; }", "(list (group (list (simple a) (simple b))))"},
	{"{\na\n}", "(list (group (list (simple a))))"},
	{"((a))", "(list (sub (list (sub (list (simple a))))))"},
	{"( (a);(b) )", "(list (sub (list (sub (list (simple a))) (sub (list (simple b))))))"},
	{"{(a)}", "(list (group (list (sub (list (simple a))))))"},
	{"{ a; }>b", "(list (group >:b (list (simple a))))"},
	{"(a)>b<c >> 'd e'", "(list (sub >:b <:c >>:'d e' (list (simple a))))"},
	{"{ a > b; } > c", "(list (group >:c (list (simple >:b a))))"},
	{"(a) > if", "(list (sub >:if (list (simple a))))"},
	{"(a) > b; c", "(list (sub >:b (list (simple a))) (simple c))"},
}

var ifCases = []treeCase{
	{"if a; then b; fi", "(list (if (list (simple a)) (list (simple b))))"},
	{"if\na\nthen\nb\nfi", "(list (if (list (simple a)) (list (simple b))))"},
	{"if a; b; then c; d; fi", "(list (if (list (simple a) (simple b)) (list (simple c) (simple d))))"},
	{"if a; then b; else c; fi", "(list (if (list (simple a)) (list (simple b)) (list (simple c))))"},
	{"if a; then b; else\nc\nfi", "(list (if (list (simple a)) (list (simple b)) (list (simple c))))"},
	{"if a; then b; elif c; then d; fi", "(list (if (list (simple a)) (list (simple b)) (list (if (list (simple c)) (list (simple d))))))"},
	{"if a; then b; elif c; then d; else e; fi", "(list (if (list (simple a)) (list (simple b)) (list (if (list (simple c)) (list (simple d)) (list (simple e))))))"},
	{"if a; then b; elif c; then d; elif e; then f; fi; g", "(list (if (list (simple a)) (list (simple b)) (list (if (list (simple c)) (list (simple d)) (list (if (list (simple e)) (list (simple f))))))) (simple g))"},
	{"if a; then b; else if c; then d; fi; fi", "(list (if (list (simple a)) (list (simple b)) (list (if (list (simple c)) (list (simple d))))))"},
	{"if a; then b; else if c; then d; fi > e; fi", "(list (if (list (simple a)) (list (simple b)) (list (if >:e (list (simple c)) (list (simple d))))))"},
	{"if a; then b; fi > c", "(list (if >:c (list (simple a)) (list (simple b))))"},
	{"if a; then b; elif c; then d; fi > e < f", "(list (if >:e <:f (list (simple a)) (list (simple b)) (list (if (list (simple c)) (list (simple d))))))"},
	{"if if a; then b; fi; then c; fi", "(list (if (list (if (list (simple a)) (list (simple b)))) (list (simple c))))"},
	{"if a && b | c; then ! d; fi", "(list (if (list (andor op=&& (simple a) (pipe (simple b) (simple c)))) (list (pipe not (simple d)))))"},
	{"if a then; then b; fi", "(list (if (list (simple a then)) (list (simple b))))"},
}

var ifRefusals = []string{
	"if", "if a", "if a;", "if a; then", "if a; then b", "if a; then b;", "if a then b; fi", "if a; then b fi", "if; then b; fi", "if then b; fi", "if a; then fi", "if a; then ; fi", "if a; fi", "if a; else b; fi", "if a; do b; fi",
	"if a; then b; else fi", "if a; then b; else", "if a; then b; else c", "if a; then b; else c; else d; fi", "if a; then b; else c; elif d; then e; fi", "if a; then b; elif; then c; fi", "if a; then b; elif c; fi", "if a; then b; elif c; then fi", "if a; then b; elif c; then d", "if a; then b; elif c; then d; fi; fi", "if a; then b; elif c; else d; fi", "if a; then b; elif", "if a; elif b; then c; fi",
	"if a; then b; fi c", "if a; then b; fi fi", "if a; then b; done", "if a; then b; }", "if (a); then b; fi; then", "if a; then b;; fi", "fi a", "then a",
}

var loopCases = []treeCase{
	{"while a; do b; done", "(list (while name=while (list (simple a)) (list (simple b))))"},
	{"until a; do b; done", "(list (while name=until (list (simple a)) (list (simple b))))"},
	{"while\na\ndo\nb\ndone", "(list (while name=while (list (simple a)) (list (simple b))))"},
	{"until a; b; do c; d; done", "(list (while name=until (list (simple a) (simple b)) (list (simple c) (simple d))))"},
	{"while a; do b; done > c", "(list (while name=while >:c (list (simple a)) (list (simple b))))"},
	{"while until a; do b; done; do c; done", "(list (while name=while (list (while name=until (list (simple a)) (list (simple b)))) (list (simple c))))"},
	{"while a do; do b done; done", "(list (while name=while (list (simple a do)) (list (simple b done))))"},

	{"for x in a b; do c; done", "(list (for name=x op=in a b (list (simple c))))"},
	{"for x in a b\ndo c\ndone", "(list (for name=x op=in a b (list (simple c))))"},
	{"for x in a;\n\ndo\nc\ndone", "(list (for name=x op=in a (list (simple c))))"},
	{"for x in; do c; done", "(list (for name=x op=in (list (simple c))))"},
	{"for x in\ndo c; done", "(list (for name=x op=in (list (simple c))))"},
	{"for x\n\nin a; do c; done", "(list (for name=x op=in a (list (simple c))))"},
	{"for x do c; done", "(list (for name=x (list (simple c))))"},
	{"for x; do c; done", "(list (for name=x (list (simple c))))"},
	{"for x\ndo c; done", "(list (for name=x (list (simple c))))"},
	{"for x;\n\ndo c; done", "(list (for name=x (list (simple c))))"},
	{"for x\n\n;\n\ndo c; done", "(list (for name=x (list (simple c))))"},
	{"for x in in do done; do c; done", "(list (for name=x op=in in do done (list (simple c))))"},
	{"for in in in; do c; done", "(list (for name=in op=in in (list (simple c))))"},
	{"for do do c; done", "(list (for name=do (list (simple c))))"},
	{"for if in a=1 $b 'c d' } !; do c; done", "(list (for name=if op=in a=1 ${b} 'c d' } ! (list (simple c))))"},
	{"for _X9 in a; do b; c; done < d", "(list (for name=_X9 op=in <:d a (list (simple b) (simple c))))"},
	{"for x do for y do a; done; done", "(list (for name=x (list (for name=y (list (simple a))))))"},
}

var loopRefusals = []string{
	"while", "while a", "while a;", "while a; do", "while a; do b", "while a; do b;", "while a; do done", "while do b; done", "while; do b; done", "while a do b; done", "while a; done", "while a; then b; done", "until a; do b; fi", "while a; do b; } ", "while a; do b; done done", "while a; do b; done c", "until", "until a; done", "do a; done", "done",
	"for", "for x", "for x in", "for x in a", "for x in a do b; done", "for x in a; b; done", "for x in a; do b", "for x in a; do done", "for x in a; done", "for x; in a; do b; done", "for x a; do b; done", "for x in a > b; do c; done", "for x in a & do b; done", "for x in a;; do b; done", "for x in a; ; do b; done", "for x in a\n; do b; done", "for x;; do a; done", "for x; ; do a; done", "for x\n;\n; do a; done", "for x in (a); do b; done", "for x in a | b; do c; done", "for x in a && do b; done", "for\nx in a; do b; done", "for ; do a; done", "for ( do a; done",
	"for 'x' in a; do b; done", "for \\x in a; do b; done", "for $x in a; do b; done", "for 1 in a; do b; done", "for 1x do b; done", "for x- in a; do b; done", "for x=1 in a; do b; done", "for x= do a; done", "for x: do a; done", "for é in a; do b; done", "for # in a; do b; done", "for ? in a; do b; done", "for } do a; done", "for ! do a; done", "for ${} in a; do b; done", "for x} in a; do b; done",
	"for x do a; done b", "for x do a; done }",
}

var caseCases = []treeCase{
	{"case a in b) c;; esac", "(list (case a (item b (list (simple c)))))"},
	{"case a in (b) c;; esac", "(list (case a (item b (list (simple c)))))"},
	{"case a in b) c; esac", "(list (case a (item b (list (simple c)))))"},
	{"case a in b) c\nesac", "(list (case a (item b (list (simple c)))))"},
	{"case a in b) (c) esac", "(list (case a (item b (list (sub (list (simple c)))))))"},
	{"case a in b) (c);; esac", "(list (case a (item b (list (sub (list (simple c)))))))"},
	{"case a in b) (c)\n\nesac", "(list (case a (item b (list (sub (list (simple c)))))))"},
	{"case a in esac", "(list (case a))"},
	{"case a\n\nin\n\nesac", "(list (case a))"},
	{"case a in b) esac", "(list (case a (item b (list))))"},
	{"case a in b)\n\nesac", "(list (case a (item b (list))))"},
	{"case a in b) ;; esac", "(list (case a (item b (list))))"},
	{"case a in b)\n\n;;\n\nesac", "(list (case a (item b (list))))"},
	{"case a in b);;c);;esac", "(list (case a (item b (list)) (item c (list))))"},
	{"case a in b|c|d) e;; f | g) h;; (i|j) k;; esac", "(list (case a (item b c d (list (simple e))) (item f g (list (simple h))) (item i j (list (simple k)))))"},
	{"case a\nin\nb)\nc\n;;\n\n(d)\ne\n\nf\n;;\nesac", "(list (case a (item b (list (simple c))) (item d (list (simple e) (simple f)))))"},
	{"case $a\"b\" in 'c d'|$e*) f;; *) g;; esac", "(list (case ${a}'b' (item 'c d' ${e}* (list (simple f))) (item * (list (simple g)))))"},
	{"case in in in) in;; esac", "(list (case in (item in (list (simple in)))))"},
	{"case esac in (esac) a;; b|esac) c;; esac", "(list (case esac (item esac (list (simple a))) (item b esac (list (simple c)))))"},
	{"case if in then|fi) a;; (do) b;; }) c;; !) d;; a=1) e;; esac", "(list (case if (item then fi (list (simple a))) (item do (list (simple b))) (item } (list (simple c))) (item ! (list (simple d))) (item a=1 (list (simple e)))))"},
	{"case a=1 in b) c esac;; esac", "(list (case a=1 (item b (list (simple c esac)))))"},
	{"case a in b) c;; esac > d", "(list (case >:d a (item b (list (simple c)))))"},
	{"case a in b) c; d;; esac; e", "(list (case a (item b (list (simple c) (simple d)))) (simple e))"},
	{"case a in b) case c in d) e;; esac;; f) g;; esac", "(list (case a (item b (list (case c (item d (list (simple e)))))) (item f (list (simple g)))))"},
	{"case a in b) case c in d) e; esac esac", "(list (case a (item b (list (case c (item d (list (simple e))))))))"},
}

var caseRefusals = []string{
	"case", "case a", "case a in", "case a in b", "case a in b)", "case a in b) c", "case a in b) c;;", "case in esac", "case\na in esac", "case a b in esac", "case ; in esac", "case (a) in esac", "case a; in esac", "case a > b in esac", "case a in ;; esac", "case a in b) c;; ;; esac", "case a in b) c;;;; esac", "case a in ; esac", "case a esac", "case a in b) c esac", "case a in b) > c esac", "case a in b) c; ;; ; esac",
	"case a in ) b;; esac", "case a in () b;; esac", "case a in (b c;; esac", "case a in b|) c;; esac", "case a in |b) c;; esac", "case a in b||c) d;; esac", "case a in b c) d;; esac", "case a in ((b) c;; esac", "case a in b)) c;; esac", "case a in b|\nc) d;; esac", "case a in (\nb) c;; esac", "case a in b\n) c;; esac", "case a in b & c) d;; esac",
	"case a in esac) b;; esac", "case a in esac|b) c;; esac", "case a in b) c;; esac) d;; esac", "case a in b) c;; esac d", "case a in b) c;; esac esac", "case a in b) c; d) e;; esac", "case a in b) (c) d) e;; esac", "case a in b) { c;; esac", "case a in b) c;; done", "case a in b) fi;; esac", "case a in b) c | ;; esac", "case a in b) && c;; esac", "esac", "case a in b) ! ;; esac",
}

var functionCases = []treeCase{
	{"f() { a; }", "(list (func name=f (group (list (simple a)))))"},
	{"f()(a)", "(list (func name=f (sub (list (simple a)))))"},
	{"f ( ) { a; }", "(list (func name=f (group (list (simple a)))))"},
	{"f()\n\n{ a; }", "(list (func name=f (group (list (simple a)))))"},
	{"f() { a; } > b", "(list (func name=f (group >:b (list (simple a)))))"},
	{"f() if a; then b; fi", "(list (func name=f (if (list (simple a)) (list (simple b)))))"},
	{"f() while a; do b; done < c", "(list (func name=f (while name=while <:c (list (simple a)) (list (simple b)))))"},
	{"f() until a; do b; done", "(list (func name=f (while name=until (list (simple a)) (list (simple b)))))"},
	{"f() for x do a; done", "(list (func name=f (for name=x (list (simple a)))))"},
	{"f() case a in esac", "(list (func name=f (case a)))"},
	{"in() { a; }", "(list (func name=in (group (list (simple a)))))"},
	{"_A9() { a; }; _A9", "(list (func name=_A9 (group (list (simple a)))) (simple _A9))"},
	{"f() { g() { a; }; g; }", "(list (func name=f (group (list (func name=g (group (list (simple a)))) (simple g)))))"},
	{"{ f() { a; }; } > b", "(list (group >:b (list (func name=f (group (list (simple a)))))))"},
	{"f() { a; } && b", "(list (andor op=&& (func name=f (group (list (simple a)))) (simple b)))"},
	{"! f() { a; }", "(list (pipe not (func name=f (group (list (simple a))))))"},
}

var functionRefusals = []string{
	"f()", "f();", "f()\n", "f(", "f(a", "f(a) { b; }", "f(\n) { a; }", "f\n() { a; }", "f() }", "f() )", "f() &&", "f() | a", "f() ! { a; }", "f() ; { a; }", "f()() { a; }", "f() { a; } b", "f() { a; } { b; }", "f() { }", "f() { a; ", "f() then", "f() done a",
	"f() a", "f() a b", "f() a=1", "f() > a", "f() > a { b; }", "f() a > b", "f() g() { a; }", "f() g() a", "f() g() h() (a)", "f() a; b", "f() 'a'", "f()\na", "f() {a; }", "f() if", "f() in",
	"if() { a; }", "then() { a; }", "{() { a; }", "!() f", "}() { a; }", "esac() { a; }", "while() { a; }", "case() { a; }", "for() { a; }", "f () () { a; }", "f f() { a; }", "f=1() { a; }", "f=() { a; }", "'f'() { a; }", "f''() { a; }", "f-() { a; }", "1f() { a; }", "f:() { a; }", "?() { a; }", "f}() { a; }",
}

func TestGroups(t *testing.T) {
	checkTrees(t, "I4", groupCases)
	checkRefused(t, "I4", "{ a; }b", "(a)b", "(a) 2 > b", "(a) >", "(a) > (b)", "> a { b; }", "> a (b)", "(a) | > ", "((a)", "(a))", "{ { a; }")
}

func TestIfs(t *testing.T) {
	checkTrees(t, "I4", ifCases)
	checkRefused(t, "I4", ifRefusals...)
}

func TestLoops(t *testing.T) {
	checkTrees(t, "I4", loopCases)
	checkRefused(t, "I4", loopRefusals...)
}

func TestCases(t *testing.T) {
	checkTrees(t, "I4", caseCases)
	checkRefused(t, "I4", caseRefusals...)
	// The list of an item ends where its case does.
	checkRefused(t, "I4", "case a in (b) esac; esac")
}

func TestFunctions(t *testing.T) {
	checkTrees(t, "I4", functionCases)
	checkRefused(t, "I4", functionRefusals...)
}

// TestExamples has the examples of the chapter.
func TestExamples(t *testing.T) {
	checkRefused(t, "I3", "a=1 b | ! c")
	checkTree(t, "I3", "! a | b && c", "(list (andor op=&& (pipe not (simple a) (simple b)) (simple c)))")
}

// TestLeftmostError has two errors in one script.
func TestLeftmostError(t *testing.T) {
	for _, c := range []struct {
		script string
		want   api.Errno
	}{
		{"${}", api.ErrWord},
		{"a ${x!} b", api.ErrWord},
		{"a=${}", api.ErrWord},
		{"a=1 b=${x:-$(c)} d", api.ErrWord},
		{"a > ${}", api.ErrWord},
		{"(a) < ${1=b}", api.ErrWord},
		{"for x in a ${} b; do c; done", api.ErrWord},
		{"case ${} in esac", api.ErrWord},
		{"case a in ${}) b;; esac", api.ErrWord},
		{"case a in (b|${}) c;; esac", api.ErrWord},

		// An error of a word comes before one that is on its right, and behind one on its left.
		{"${} )", api.ErrWord},
		{") ${}", api.ErrSyntax},
		{"a ${} (", api.ErrWord},
		{"a ( ${}", api.ErrSyntax},
		{"${} ()", api.ErrWord},
		{"${}() { a; }", api.ErrWord},
		{"a; ; ${}", api.ErrSyntax},
		{"(a) ${}", api.ErrSyntax},
		{"{ ${}", api.ErrWord},
		{"{ a; ${}", api.ErrWord},
		{"{ } ${}", api.ErrSyntax},
		{"if ${}", api.ErrWord},
		{"if a; then b; else ${}; else", api.ErrWord},
		{"if a; then b; fi ${}", api.ErrSyntax},
		{"if a; fi; ${}", api.ErrSyntax},
		{"while a; do ${}", api.ErrWord},
		{"a | | ${}", api.ErrSyntax},
		{"a | ! ${}", api.ErrSyntax},
		{"! ! ${}", api.ErrSyntax},
		{"! ${} | !", api.ErrWord},
		{"> > ${}", api.ErrSyntax},
		{"> ${} >", api.ErrWord},
		{"a & ${}", api.ErrSyntax},
		{"${} &", api.ErrWord},

		// A word that doesn't fit is no word of the grammar.
		{"for ${} in a; do b; done", api.ErrSyntax},
		{"for ${}", api.ErrSyntax},
		{"for x ${}", api.ErrSyntax},
		{"for x in a; ${}", api.ErrSyntax},
		{"for x in ${} do a; done", api.ErrWord},
		{"case a ${} in esac", api.ErrSyntax},
		{"case a in b ${}) c;; esac", api.ErrSyntax},
		{"case a in esac ${}", api.ErrSyntax},
		{"case ${}", api.ErrWord},
		{"case a in ${}", api.ErrWord},
		{"case a in b) (c) ${}", api.ErrSyntax},
		{"f(${}", api.ErrSyntax},
		{"f() { a; } ${}", api.ErrSyntax},

		// That a function has no other command is checked behind the errors in it, and before all others.
		{"f() a ${}", api.ErrWord},
		{"f() a > ${}", api.ErrWord},
		{"f() a=${} b", api.ErrWord},
		{"f() a; ${}", api.ErrSyntax},
		{"f() a | ${}", api.ErrSyntax},
		{"f() a\n${}", api.ErrSyntax},
		{"f() g() { ${}; }", api.ErrWord},
		{"f() g() { a; } > ${}", api.ErrWord},
		{"f() g() { a; }; ${}", api.ErrSyntax},
		{"f() g() a ${}", api.ErrWord},
		{"f() ${}", api.ErrWord},
		{"f() { ${}; }", api.ErrWord},
	} {
		checkError(t, "I1", c.script, c.want)
	}
}

// TestErrorsOfTokens has scripts that have no tokens, whatever else is wrong with them.
func TestErrorsOfTokens(t *testing.T) {
	for _, bad := range []string{"'", `"`, `\`, "a'", "$(", "${", "${x", "$((1)", strings.Repeat("$(", 31) + strings.Repeat(")", 31)} {
		for _, before := range []string{"", "a ", "a; ", ") ", "${} ", "; ; ", "if ", strings.Repeat("{ ", 31) + "a "} {
			checkError(t, "I1", before+bad, api.ErrQuote)
		}
	}
	checkTree(t, "I1", "a # '", "(list (simple a))")
	for _, unit := range []string{"a", "a;", "a\n", "a ", "(", ")", "${}", "'"} {
		long := strings.Repeat(unit, 20001/len(unit)+1)[:20001]
		checkError(t, "I1", long, api.ErrLong)
	}
}

// TestLongScripts has scripts that are as long as they may be.
func TestLongScripts(t *testing.T) {
	for _, c := range []struct{ unit, end, before, each, behind string }{
		{"a", "", "(list (simple ", "a", "))"},
		{"a ", "", "(list (simple", " a", "))"},
		{"a;", "", "(list", " (simple a)", ")"},
		{"a\n", "", "(list", " (simple a)", ")"},
		{"a=1 ", "", "(list (simple", " let:a=1", "))"},
		{"> a ", "", "(list (simple", " >:a", "))"},
		{"(a);", "", "(list", " (sub (list (simple a)))", ")"},
		{"a | ", "a\n", "(list (pipe", " (simple a)", " (simple a)))"},
		{"f()(a);", "", "(list", " (func name=f (sub (list (simple a))))", ")"},
	} {
		n := (20000 - len(c.end)) / len(c.unit)
		script := strings.Repeat(c.unit, n) + c.end
		checkTree(t, "I1", script, c.before+strings.Repeat(c.each, n)+c.behind)
	}
	checkError(t, "I1", strings.Repeat("a|", 10000), api.ErrSyntax)
	checkError(t, "I1", strings.Repeat("a;", 9998)+"${}", api.ErrWord)
	checkError(t, "I1", strings.Repeat("(", 20000), api.ErrLong)
	checkError(t, "I1", strings.Repeat(")", 20000), api.ErrSyntax)
}
