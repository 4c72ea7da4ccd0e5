package unparse_test

import (
	"fmt"
	"reflect"
	"runtime/debug"
	"strings"
	"testing"

	"scullion/api"
	"scullion/unparse"
	"scullion/word"
)

// model returns the text of a node, put together from the texts of its kids.
func model(n api.Node) string {
	all := each(n.Kids, model)
	kid := func(i int) string { return strings.Join(all[min(i, len(all)):min(i+1, len(all))], "") }
	words := each(n.Words, word.Print)
	redirs := each(n.Redirs, func(r api.Redir) string { return fmt.Sprintf("%s %s", r.Op, word.Print(r.Word)) })
	text := ""
	switch n.Kind {
	case 0:
		assigns := each(n.Assigns, func(a api.Assign) string { return a.Name + "=" + word.Print(a.Value) })
		return strings.Join(append(append(redirs, assigns...), words...), " ")
	case 1:
		return strings.Repeat("! ", map[bool]int{true: 1}[n.Not]) + strings.Join(all, " | ")
	case 2:
		for i, one := range all {
			text += one
			if i < len(all)-1 {
				text += " " + strings.Join(n.Ops[min(i, len(n.Ops)):min(i+1, len(n.Ops))], "") + " "
			}
		}
		return text
	case 3:
		return strings.Join(all, "; ")
	case 10:
		return fmt.Sprintf("( %s ) %s;;", strings.Join(words, " | "), kid(0))
	case 11:
		return fmt.Sprintf("%s() %s", n.Name, kid(0))
	case 4:
		text = fmt.Sprintf("{ %s; }", kid(0))
	case 5:
		text = fmt.Sprintf("( %s )", kid(0))
	case 6:
		text = fmt.Sprintf("if %s; then %s; ", kid(0), kid(1))
		if len(all) >= 3 {
			text += fmt.Sprintf("else %s; ", kid(2))
		}
		text += "fi"
	case 7:
		text = fmt.Sprintf("%s %s; do %s; done", n.Name, kid(0), kid(1))
	case 8:
		text = "for " + n.Name
		if len(n.Ops) != 0 {
			text += strings.Join(append([]string{" in"}, words...), " ")
		}
		text += fmt.Sprintf("; do %s; done", kid(0))
	case 9:
		text = "case " + strings.Join(words[:min(1, len(words))], "") + " in "
		for _, one := range all {
			text += one + " "
		}
		text += "esac"
	default:
		return ""
	}
	return strings.Join(append([]string{text}, redirs...), " ")
}

// each returns what f makes of each element of a list, in new memory.
func each[A, B any](l []A, f func(A) B) []B {
	var all []B
	for _, x := range l {
		all = append(all, f(x))
	}
	return all
}

// numbers returns a function that returns the same sequence of numbers in every run.
func numbers(seed int) func(below int) int {
	state := uint64(seed)
	return func(below int) int {
		state = state*6364136223846793005 + 1442695040888963407
		return int(state>>33) % below
	}
}

// some returns a few of what f makes, and behind their end one more.
func some[T any](next func(int) int, most int, f func() T) []T {
	l := make([]T, 1+next(most+1))
	for i := range l {
		l[i] = f()
	}
	return l[:len(l)-1]
}

// anyText returns a text of a few pieces.
func anyText(next func(int) int) string {
	pieces := []string{"", "a", "bc", "1", "if", "in", "esac", " ", "\n", "'", `"`, `\`, "$", ";", ";;", "&&", "||", "|", "!", "(", ")", "{", "}", "<", ">", ">>", "=", "#", "é", "\xff", "\x00"}
	var b strings.Builder
	for range next(4) {
		b.WriteString(pieces[next(len(pieces))])
	}
	return b.String()
}

// anyPart returns a part that needn't be in any word.
func anyPart(next func(int) int, depth int) api.Part {
	p := api.Part{Kind: next(6) - 1, Quoted: next(2) == 0, Text: anyText(next), Name: anyText(next), Op: []string{"", "len", ":-", "#", "%"}[next(5)]}
	if depth > 0 {
		p.Word = some(next, 2, func() api.Part { return anyPart(next, depth-1) })
	}
	return p
}

// anyNode returns a node that needn't be in any tree, and all of whose fields may have something.
func anyNode(next func(int) int, depth int) api.Node {
	word := func() []api.Part {
		return some(next, 2, func() api.Part { return anyPart(next, 1) })
	}
	n := api.Node{Kind: next(14) - 1, Not: next(2) == 0, Name: anyText(next)}
	n.Words = some(next, 3, word)
	n.Assigns = some(next, 2, func() api.Assign { return api.Assign{Name: anyText(next), Value: word()} })
	n.Redirs = some(next, 2, func() api.Redir { return api.Redir{Op: anyText(next), Word: word()} })
	n.Ops = some(next, 3, func() string { return anyText(next) })
	if depth > 0 {
		n.Kids = some(next, 3, func() api.Node { return anyNode(next, depth-1) })
	}
	return n
}

// TestAnyNodes holds nodes that needn't be in any tree against the model.
func TestAnyNodes(t *testing.T) {
	printed := map[int]int{}
	for seed := range 20000 {
		next := numbers(seed)
		n := anyNode(next, next(3))
		if got, want := unparse.Print(n), model(n); got != want {
			t.Fatalf("J1: %+v: %q, want %q", n, got, want)
		}
		printed[n.Kind]++
	}
	for kind := -1; kind <= 12; kind++ {
		if printed[kind] < 500 {
			t.Errorf("J1: only %d nodes are of the Kind %d", printed[kind], kind)
		}
	}
}

// whole returns a copy of something that shares nothing with it, in which each list goes on behind its end.
func whole(v reflect.Value) reflect.Value {
	c := reflect.New(v.Type()).Elem()
	switch v.Kind() {
	case reflect.Struct:
		for i := range v.NumField() {
			c.Field(i).Set(whole(v.Field(i)))
		}
	case reflect.Slice:
		if v.IsNil() {
			return c
		}
		v = v.Slice(0, v.Cap())
		c.Set(reflect.MakeSlice(v.Type(), v.Len(), v.Len()))
		for i := range v.Len() {
			c.Index(i).Set(whole(v.Index(i)))
		}
	default:
		c.Set(v)
	}
	return c
}

// TestArguments prints nodes that stay as they are, also behind the ends of their lists.
func TestArguments(t *testing.T) {
	for seed := range 300 {
		next := numbers(seed)
		n := anyNode(next, 2)
		before := whole(reflect.ValueOf(n)).Interface()
		unparse.Print(n)
		if after := whole(reflect.ValueOf(n)).Interface(); !reflect.DeepEqual(before, after) {
			t.Fatalf("R3: %+v was changed to %+v", before, after)
		}
	}
}

// TestPrintAgain has no text that depends on earlier calls.
func TestPrintAgain(t *testing.T) {
	var all []api.Node
	var texts []string
	for seed := range 300 {
		n := anyNode(numbers(seed), 2)
		all, texts = append(all, n), append(texts, unparse.Print(n))
	}
	for i := len(all) - 1; i >= 0; i-- {
		if got := unparse.Print(all[i]); got != texts[i] {
			t.Errorf("R4: %+v: %q, and %q before", all[i], got, texts[i])
		}
	}
}

// chain is a Kind of which nodes are nested in one another, each one the kid with an index of the one above it, and what is printed before and behind that kid.
type chain struct {
	kind, index    int
	before, behind string
}

var chains = []chain{
	{api.Pipe, 0, "", ""},
	{api.Pipe, 1, " | ", ""},
	{api.AndOr, 0, "", ""},
	{api.AndOr, 1, "  ", ""},
	{api.List, 0, "", ""},
	{api.List, 1, "; ", ""},
	{api.Group, 0, "{ ", "; }"},
	{api.Sub, 0, "( ", " )"},
	{api.If, 0, "if ", "; then ; fi"},
	{api.If, 1, "if ; then ", "; fi"},
	{api.If, 2, "if ; then ; else ", "; fi"},
	{api.While, 0, " ", "; do ; done"},
	{api.While, 1, " ; do ", "; done"},
	{api.For, 0, "for ; do ", "; done"},
	{api.Case, 0, "case  in ", " esac"},
	{api.Case, 1, "case  in  ", " esac"},
	{api.Item, 0, "(  ) ", ";;"},
	{api.Func, 0, "() ", ""},
}

// checkChain fails unless a chain of so many nodes is printed.
func checkChain(t *testing.T, c chain, count int) {
	t.Helper()
	n := cmd("a")
	for range count {
		kids := make([]api.Node, c.index+1)
		kids[c.index] = n
		n = api.Node{Kind: c.kind, Kids: kids}
	}
	got := unparse.Print(n)
	text, begins := strings.CutPrefix(got, strings.Repeat(c.before, count))
	text, ends := strings.CutSuffix(text, strings.Repeat(c.behind, count))
	if !begins || !ends || text != "a" {
		t.Errorf("J1: %d nodes of the Kind %d in one another: %d bytes, %.100q", count, c.kind, len(got), got)
	}
}

// shortStack leaves little room for calls while a test runs, so that it ends if they are as deep as what it prints.
func shortStack(t *testing.T) {
	room := debug.SetMaxStack(4 << 20)
	t.Cleanup(func() { debug.SetMaxStack(room) })
}

// TestDeepNodes has nodes that are nested in more than those of a script.
func TestDeepNodes(t *testing.T) {
	shortStack(t)
	for _, c := range chains {
		for count := range 70 {
			checkChain(t, c, count)
		}
		checkChain(t, c, 100000)
	}
	checkChain(t, chain{api.Group, 0, "{ ", "; }"}, 1000000)
}

// TestDeepWords has a word that is nested in more than those of a script.
func TestDeepWords(t *testing.T) {
	shortStack(t)
	const count = 300000
	l := []api.Part{{Kind: api.Text, Text: "a"}}
	for range count {
		l = []api.Part{{Kind: api.Param, Name: "x", Op: "-", Word: l}}
	}
	want := strings.Repeat("${x-", count) + "a" + strings.Repeat("}", count)
	for got, n := range map[string]api.Node{
		want:                        {Words: [][]api.Part{l}},
		"x=" + want:                 {Assigns: []api.Assign{{Name: "x", Value: l}}},
		"(  ) > " + want:            {Kind: api.Sub, Redirs: []api.Redir{{Op: ">", Word: l}}},
		"case " + want + " in esac": {Kind: api.Case, Words: [][]api.Part{l}},
	} {
		if text := unparse.Print(n); text != got {
			t.Errorf("J2: %d bytes, want %d", len(text), len(got))
		}
	}
}

// TestWideNodes has many kids, words and redirections.
func TestWideNodes(t *testing.T) {
	const count = 300000
	var words [][]api.Part
	for range count {
		words = append(words, []api.Part{{Kind: api.Text, Text: "a"}})
	}
	redirs := make([]api.Redir, count)
	kids := make([]api.Node, count)
	for want, n := range map[string]api.Node{
		strings.Repeat("a ", count-1) + "a":                     {Words: words},
		strings.Repeat("; ", count-1):                           {Kind: api.List, Kids: kids},
		"! " + strings.Repeat(" | ", count-1):                   {Kind: api.Pipe, Not: true, Kids: kids},
		"{ ; }" + strings.Repeat("  ", count):                   {Kind: api.Group, Redirs: redirs},
		"for  in" + strings.Repeat(" a", count) + "; do ; done": {Kind: api.For, Ops: []string{"in"}, Words: words},
		"( " + strings.Repeat("a | ", count-1) + "a ) ;;":       {Kind: api.Item, Words: words},
		"case a in " + strings.Repeat(" ", count) + "esac":      {Kind: api.Case, Words: words, Kids: kids},
		strings.Repeat("  ", count-1):                           {Kind: api.AndOr, Kids: kids},
	} {
		if got := unparse.Print(n); got != want {
			t.Errorf("J1: Kind %d: %d bytes, want %d", n.Kind, len(got), len(want))
		}
	}
}
