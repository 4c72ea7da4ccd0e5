package syntax_test

import (
	"reflect"
	"strings"
	"testing"

	"scullion/api"
	"scullion/syntax"
	"scullion/word"
)

// kindNames are the names of the kinds of nodes.
var kindNames = map[int]string{api.Simple: "simple", api.Pipe: "pipe", api.AndOr: "andor", api.List: "list", api.Group: "group", api.Sub: "sub", api.If: "if", api.While: "while", api.For: "for", api.Case: "case", api.Item: "item", api.Func: "func"}

// told returns a text that tells all fields of a node: its kind; `not`; its name; its Ops, assignments and redirections, with a sign before each; its words; and its kids.
func told(n api.Node) string {
	fields := []string{kindNames[n.Kind]}
	if n.Not {
		fields = append(fields, "not")
	}
	if n.Name != "" {
		fields = append(fields, "name="+n.Name)
	}
	for _, op := range n.Ops {
		fields = append(fields, "op="+op)
	}
	for _, assign := range n.Assigns {
		fields = append(fields, "let:"+assign.Name+"="+word.Print(assign.Value))
	}
	for _, redir := range n.Redirs {
		fields = append(fields, redir.Op+":"+word.Print(redir.Word))
	}
	for _, parts := range n.Words {
		fields = append(fields, word.Print(parts))
	}
	for _, kid := range n.Kids {
		fields = append(fields, told(kid))
	}
	return "(" + strings.Join(fields, " ") + ")"
}

// plain returns a node in which no empty list is other than nil.
func plain(n api.Node) api.Node {
	n.Words = each(n.Words, plainParts)
	n.Assigns = each(n.Assigns, func(a api.Assign) api.Assign { return api.Assign{Name: a.Name, Value: plainParts(a.Value)} })
	n.Redirs = each(n.Redirs, func(r api.Redir) api.Redir { return api.Redir{Op: r.Op, Word: plainParts(r.Word)} })
	n.Ops = each(n.Ops, func(s string) string { return s })
	n.Kids = each(n.Kids, plain)
	return n
}

func plainParts(l []api.Part) []api.Part {
	return each(l, func(p api.Part) api.Part {
		p.Word = plainParts(p.Word)
		return p
	})
}

// each returns what f makes of each element of a list, in new memory.
func each[T any](l []T, f func(T) T) []T {
	var all []T
	for _, x := range l {
		all = append(all, f(x))
	}
	return all
}

// same tells whether two nodes are equal.
func same(a, b api.Node) bool { return reflect.DeepEqual(plain(a), plain(b)) }

// checkTree fails unless a script has a tree, told in a text.
func checkTree(t *testing.T, promise, script, want string) {
	t.Helper()
	got, f := syntax.Parse(script)
	if f != api.OK || told(got) != want {
		t.Errorf("%s: %.300q: %.500s and %d, want %.500s", promise, script, told(got), f, want)
	}
}

// checkError fails unless Parse returns an error for a script, and the zero node beside it.
func checkError(t *testing.T, promise, script string, want api.Errno) {
	t.Helper()
	if got, f := syntax.Parse(script); f != want || !reflect.DeepEqual(got, api.Node{}) {
		t.Errorf("%s: %.300q: %.500s and %d, want the error %d alone", promise, script, told(got), f, want)
	}
}

// treeCase is a script with its tree.
type treeCase struct{ script, want string }

func checkTrees(t *testing.T, promise string, cases []treeCase) {
	t.Helper()
	for _, c := range cases {
		checkTree(t, promise, c.script, c.want)
	}
}

// checkRefused fails unless all scripts are refused with ErrSyntax.
func checkRefused(t *testing.T, promise string, scripts ...string) {
	t.Helper()
	for _, script := range scripts {
		checkError(t, promise, script, api.ErrSyntax)
	}
}

var listCases = []treeCase{
	{"", "(list)"},
	{" \t", "(list)"},
	{"# a", "(list)"},
	{"\n", "(list)"},
	{"\n \n\n# a\n", "(list)"},
	{"a", "(list (simple a))"},
	{"\n\na", "(list (simple a))"},
	{"a;", "(list (simple a))"},
	{"a\n", "(list (simple a))"},
	{"a\n\n\n", "(list (simple a))"},
	{"a;\n\n", "(list (simple a))"},
	{"a # b; c", "(list (simple a))"},
	{"a;b", "(list (simple a) (simple b))"},
	{"a\nb", "(list (simple a) (simple b))"},
	{"a;\n\nb;c\n\n\nd\n", "(list (simple a) (simple b) (simple c) (simple d))"},
	{"a && b; c | d\n! e", "(list (andor op=&& (simple a) (simple b)) (pipe (simple c) (simple d)) (pipe not (simple e)))"},

	// A list in a command may end behind an and-or that nothing separates from what follows.
	{"(a)", "(list (sub (list (simple a))))"},
	{"(a;)", "(list (sub (list (simple a))))"},
	{"(\n\na\n\n)", "(list (sub (list (simple a))))"},
	{"{ (a) }", "(list (group (list (sub (list (simple a))))))"},
	{"{ { a; } }", "(list (group (list (group (list (simple a))))))"},
	{"{ { a; } > b }", "(list (group (list (group >:b (list (simple a))))))"},
	{"{ a | (b) }", "(list (group (list (pipe (simple a) (sub (list (simple b)))))))"},
	{"{ a && (b) }", "(list (group (list (andor op=&& (simple a) (sub (list (simple b)))))))"},
	{"{ f() (a) }", "(list (group (list (func name=f (sub (list (simple a)))))))"},
	{"if (a) then (b) else (c) fi", "(list (if (list (sub (list (simple a)))) (list (sub (list (simple b)))) (list (sub (list (simple c))))))"},
	{"if (a) then (b) elif (c) then (d) fi", "(list (if (list (sub (list (simple a)))) (list (sub (list (simple b)))) (list (if (list (sub (list (simple c)))) (list (sub (list (simple d))))))))"},
	{"while (a) do (b) done", "(list (while name=while (list (sub (list (simple a)))) (list (sub (list (simple b))))))"},
	{"{ a } ; }", "(list (group (list (simple a }))))"},
}

// listRefusals are scripts in which a list ends where it may not, or doesn't end.
var listRefusals = []string{
	";", ";a", "\n;", "a;;", "a;;b", "a; ;b", "a\n;b", "a;\n;", ";;", "&", "a&", "a & b", "a;&b",
	")", "a)", "a;)", "}", "a; }", "(a) }", "then", "a; then", "elif", "else", "fi", "do", "done", "esac", "a\nesac",
	"(a) b", "(a) (b)", "{ a; } b", "{ a; } { b; }", "(a) 'b'", "(a) > b c", "(a) if b; then c; fi", "f() (a) b",
	"()", "( )", "(\n)", "(;)", "{ }", "{ ; }", "{\n}", "{ a }", "{a; }", "(a", "(a;", "(a\n", "{ a;", "{ a; )", "( a; }", "{", "(", "{ a; };;",
	"( then )", "{ fi; }", "( a; do )",
}

func TestLists(t *testing.T) {
	checkTrees(t, "I2", listCases)
	checkRefused(t, "I2", listRefusals...)
}

var pipeCases = []treeCase{
	{"a && b", "(list (andor op=&& (simple a) (simple b)))"},
	{"a||b", "(list (andor op=|| (simple a) (simple b)))"},
	{"a && b || c && d", "(list (andor op=&& op=|| op=&& (simple a) (simple b) (simple c) (simple d)))"},
	{"a &&\n\n b ||\n# c\nd", "(list (andor op=&& op=|| (simple a) (simple b) (simple d)))"},
	{"a && b; c || d", "(list (andor op=&& (simple a) (simple b)) (andor op=|| (simple c) (simple d)))"},
	{"a | b", "(list (pipe (simple a) (simple b)))"},
	{"a|b|c", "(list (pipe (simple a) (simple b) (simple c)))"},
	{"a |\n\n b |\n c", "(list (pipe (simple a) (simple b) (simple c)))"},
	{"! a", "(list (pipe not (simple a)))"},
	{"! a | b", "(list (pipe not (simple a) (simple b)))"},
	{"!(a)", "(list (pipe not (sub (list (simple a)))))"},
	{"! { a; } > b", "(list (pipe not (group >:b (list (simple a)))))"},
	{"!a", "(list (simple !a))"},
	{"'!' a", "(list (simple '!' a))"},
	{"a !", "(list (simple a !))"},
	{"a && ! b", "(list (andor op=&& (simple a) (pipe not (simple b))))"},
	{"! a || ! b | c", "(list (andor op=|| (pipe not (simple a)) (pipe not (simple b) (simple c))))"},
	{"! a | b && c", "(list (andor op=&& (pipe not (simple a) (simple b)) (simple c)))"},
	{"a | b && c | d", "(list (andor op=&& (pipe (simple a) (simple b)) (pipe (simple c) (simple d))))"},
	{"{ a; } | (b) | if c; then d; fi", "(list (pipe (group (list (simple a))) (sub (list (simple b))) (if (list (simple c)) (list (simple d)))))"},
	{"f() { a; } | b && c", "(list (andor op=&& (pipe (func name=f (group (list (simple a)))) (simple b)) (simple c)))"},
}

var pipeRefusals = []string{
	"&& a", "|| a", "| a", "a &&", "a ||", "a |", "a &&\n\n", "a |\n", "a && && b", "a && || b", "a | | b", "a |&& b", "a && | b", "a && ; b", "a | ; b", "a\n&& b", "a\n| b", "a; && b", "a && )", "a | }", "a && then", "a | done", "(a |)", "{ a && }",
	"!", "! !", "! ! a", "!\n", "!\na", "! ;", "! && a", "! | a", "a | ! b", "a | !", "a && !", "! a | ! b", "! )", "! }", "! then", "! fi a", "{ ! }", "( ! )",
}

func TestPipes(t *testing.T) {
	checkTrees(t, "I3", pipeCases)
	checkRefused(t, "I3", pipeRefusals...)
}

var simpleCases = []treeCase{
	{"a b c", "(list (simple a b c))"},
	{"a 'b c' \"d\" \\e $f \"$g\" ${h:-i j} $(k l) $((1 + 2))", `(list (simple a 'b c' 'd' 'e' ${f} "${g}" ${h:-i j} $(k l) $((1 + 2))))`},
	{"a b > c < d >> e", "(list (simple >:c <:d >>:e a b))"},
	{"a > b c > d e", "(list (simple >:b >:d a c e))"},
	{"> a", "(list (simple >:a))"},
	{"<a", "(list (simple <:a))"},
	{">>a", "(list (simple >>:a))"},
	{">a<b>>c", "(list (simple >:a <:b >>:c))"},
	{"> a b", "(list (simple >:a b))"},
	{"> 'a b' < $c >> d$e\"f\"", "(list (simple >:'a b' <:${c} >>:d${e}'f'))"},
	{"2>a", "(list (simple >:a 2))"},

	{"a=1", "(list (simple let:a=1))"},
	{"a=", "(list (simple let:a=))"},
	{"a=1 b=2", "(list (simple let:a=1 let:b=2))"},
	{"a=1 b", "(list (simple let:a=1 b))"},
	{"a=1 b c=2", "(list (simple let:a=1 b c=2))"},
	{"b a=1", "(list (simple b a=1))"},
	{"a=1=2==", "(list (simple let:a=1=2==))"},
	{"_A9z='b c'$d\"$e\"", `(list (simple let:_A9z='b c'${d}"${e}"))`},
	{"a=$(b c) d", "(list (simple let:a=$(b c) d))"},
	{"a=b=c", "(list (simple let:a=b=c))"},
	{"a=1 > b c=2 < d e f=3", "(list (simple let:a=1 let:c=2 >:b <:d e f=3))"},
	{"> a b=1 c", "(list (simple let:b=1 >:a c))"},
	{"> a=1 b=2", "(list (simple let:b=2 >:a=1))"},
	{"> a b c=1", "(list (simple >:a b c=1))"},
	{"a=1 > b", "(list (simple let:a=1 >:b))"},
	{"a=1 1=2 b=3", "(list (simple let:a=1 1=2 b=3))"},
	{"'a'=1", "(list (simple 'a'=1))"},
	{"\\a=1", "(list (simple 'a'=1))"},
	{"a\\=1", "(list (simple a'='1))"},
	{"a'=1'", "(list (simple a'=1'))"},
	{"\"a=1\"", "(list (simple 'a=1'))"},
	{"=1", "(list (simple =1))"},
	{"1=2", "(list (simple 1=2))"},
	{"1a=2", "(list (simple 1a=2))"},
	{"a-b=1", "(list (simple a-b=1))"},
	{"a:=1", "(list (simple a:=1))"},
	{"a+=1", "(list (simple a+=1))"},
	{"a}=1", "(list (simple a}=1))"},
	{"a#=1", "(list (simple a#=1))"},
	{"#=1", "(list)"},
	{"?=1 @=2 *=3", "(list (simple ?=1 @=2 *=3))"},
	{"é=1", "(list (simple é=1))"},
	{"aé=1", "(list (simple aé=1))"},
	{"$a=1", "(list (simple ${a}=1))"},
	{"${a}=1 ${a=1}", "(list (simple ${a}=1 ${a=1}))"},
	{"a=~ b", "(list (simple let:a=~ b))"},
	{"if=1 then=2 b", "(list (simple let:if=1 let:then=2 b))"},

	// Words that mean something at the beginning of a command mean nothing behind it.
	{"echo if then elif else fi do done esac } ! { while until for case in", "(list (simple echo if then elif else fi do done esac } ! { while until for case in))"},
	{"a=1 if", "(list (simple let:a=1 if))"},
	{"> a then b", "(list (simple >:a then b))"},
	{"> if", "(list (simple >:if))"},
	{"a > }", "(list (simple >:} a))"},
	{"< ! a", "(list (simple <:! a))"},
	{"in", "(list (simple in))"},
	{"in a", "(list (simple in a))"},
	{"'if' a", "(list (simple 'if' a))"},
	{"\\if a", "(list (simple 'i'f a))"},
	{"i\"f\" a", "(list (simple i'f' a))"},
	{"'then'; \"fi\"; \\}; '{' a; '}'", "(list (simple 'then') (simple 'fi') (simple '}') (simple '{' a) (simple '}'))"},
	{"if= a", "(list (simple let:if= a))"},
	{"iff; fif; {a; a}; }a; !a; If; dO", "(list (simple iff) (simple fif) (simple {a) (simple a}) (simple }a) (simple !a) (simple If) (simple dO))"},
	{"$if ${then}", "(list (simple ${if} ${then}))"},
}

var simpleRefusals = []string{
	">", "<", ">>", "a >", "a > ; b", "a >\nb", "a > > b", "a < > b", "a << b", "a >| b", "a >& b", "a > (b)", "a > )", "> > a", "> ;", "> &&", "a=1 >", "<<<", "a <",
	"a (b)", "a b ()", "a b (c)", "a=1 ()", "a=1 (b)", "a=(b)", "a=1 { b; }", "> a (b)", "> a ()", "'a' ()", "$a ()", "a=b() { c; }", "a (", "a ( )", "1() { a; }", "a-b() { c; }", "é() { a; }",
	"a { b; }", "a=1 if b; then c; fi", "> a { b; }", "a if b; then c; fi", "a; then b", "> a for b do c; done", "'if' a; then b; fi",
}

func TestSimpleCommands(t *testing.T) {
	checkTrees(t, "I5", simpleCases)
	checkRefused(t, "I5", simpleRefusals...)
}
