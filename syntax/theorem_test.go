package syntax_test

import (
	"reflect"
	"slices"
	"strings"
	"testing"

	"scullion/api"
	"scullion/syntax"
	"scullion/word"
)

// validScripts returns many scripts that have trees.
func validScripts() []string {
	var l []string
	for _, cases := range [][]treeCase{listCases, pipeCases, simpleCases, groupCases, ifCases, loopCases, caseCases, functionCases} {
		for _, c := range cases {
			l = append(l, c.script)
		}
	}
	for seed := range 1200 {
		next := numbers(seed)
		tokens, _ := someScript(next)
		if script := laidOut(next, tokens); len(script) < 2000 {
			l = append(l, script)
		}
	}
	return l
}

// TestScriptsAfterLineEnds has two scripts with a line end between them.
func TestScriptsAfterLineEnds(t *testing.T) {
	all := validScripts()
	for i, first := range all {
		one, _ := syntax.Parse(first)
		for _, k := range []int{1, 1009} {
			second := all[(i*7+k)%len(all)]
			two, _ := syntax.Parse(second)
			want := api.Node{Kind: api.List, Kids: slices.Concat(one.Kids, two.Kids)}
			for _, between := range []string{"\n", "\n\n", " \n\t# a ; (\n"} {
				if got, f := syntax.Parse(first + between + second); f != api.OK || !same(got, want) {
					t.Fatalf("I6: %q: %s and %d, want %s", first+between+second, told(got), f, told(want))
				}
			}
		}
	}
}

// TestErrorsAfterLineEnds has a script that is refused behind one that is not.
func TestErrorsAfterLineEnds(t *testing.T) {
	for i, first := range validScripts() {
		second := []string{")", "a ${}", "(", "a; ;", "${} )", "} ${}", strings.Repeat("{ ", 31) + "a", "'", "if a; fi"}[i%9]
		_, want := syntax.Parse(second)
		checkError(t, "I6", first+"\n"+second, want)
	}
}

// TestAroundCommands adds line ends, semicolons and comments where they change nothing.
func TestAroundCommands(t *testing.T) {
	for i, script := range validScripts() {
		want, _ := syntax.Parse(script)
		check := func(other string) {
			t.Helper()
			if got, f := syntax.Parse(other); f != api.OK || !same(got, want) {
				t.Fatalf("I6: %q: %s and %d, but %q: %s", other, told(got), f, script, told(want))
			}
		}
		check("\n" + script)
		check(" \n# a\n\n\t" + script)
		check(script + "\n")
		check(script + "\n\n \n")
		check(script + " # a ) '")
		check(script + "\n# a\n")
		check("# a\n" + script + "\n#")
		tokens := tokensOf(t, script)
		if n := len(tokens); n > 0 && tokens[n-1].Text != ";" && tokens[n-1].Kind != api.Line {
			check(script + ";")
			check(script + " ;\n\n")
		}
		check(moreLines(numbers(i), tokens))
		check(otherEnds(tokens))
	}
}

// moreLines returns a script with more line ends behind those that are there already, and some comments.
func moreLines(next func(int) int, tokens []api.Token) string {
	var b strings.Builder
	for _, token := range tokens {
		if token.Kind == api.Line {
			b.WriteString([]string{"", " # a", "\n", "\n\n", " # '\n\t"}[next(5)])
		}
		b.WriteString(token.Text + " ")
	}
	return b.String()
}

// otherEnds returns a script with line ends for all semicolons.
func otherEnds(tokens []api.Token) string {
	var b strings.Builder
	for _, token := range tokens {
		if token.Text == ";" {
			token.Text = "\n"
		}
		b.WriteString(token.Text + " ")
	}
	return b.String()
}

// TestQuotedTexts passes every text on unchanged, wherever it stands in quotes.
func TestQuotedTexts(t *testing.T) {
	texts := slices.Concat(wordTexts, laterTexts, []string{"in", ";", "&&", "(", ")", "a b", "\n", "# a", "it's", `"`, `\`, "$a", "${}", "$(", "é\xff\x00", "<", ""})
	for _, text := range texts {
		want := []api.Part{{Kind: api.Text, Quoted: true, Text: text}}
		quoted := word.Print(want)
		list := func(n api.Node) api.Node { return api.Node{Kind: api.List, Kids: []api.Node{n}} }
		simple := api.Node{Kind: api.Simple, Words: [][]api.Part{want}}
		for script, node := range map[string]api.Node{
			quoted:                             simple,
			"x=" + quoted:                      {Kind: api.Simple, Assigns: []api.Assign{{Name: "x", Value: want}}},
			"> " + quoted:                      {Kind: api.Simple, Redirs: []api.Redir{{Op: ">", Word: want}}},
			"! " + quoted:                      {Kind: api.Pipe, Not: true, Kids: []api.Node{simple}},
			"(" + quoted + ")":                 {Kind: api.Sub, Kids: []api.Node{list(simple)}},
			"f() (" + quoted + ") >>" + quoted: {Kind: api.Func, Name: "f", Kids: []api.Node{{Kind: api.Sub, Kids: []api.Node{list(simple)}, Redirs: []api.Redir{{Op: ">>", Word: want}}}}},
			"for x in " + quoted + "; do " + quoted + "; done":                {Kind: api.For, Name: "x", Ops: []string{"in"}, Words: [][]api.Part{want}, Kids: []api.Node{list(simple)}},
			"case " + quoted + " in " + quoted + "|" + quoted + ") ;; esac":   {Kind: api.Case, Words: [][]api.Part{want}, Kids: []api.Node{{Kind: api.Item, Words: [][]api.Part{want, want}, Kids: []api.Node{{Kind: api.List}}}}},
			"while " + quoted + "; do " + quoted + "; done <" + quoted:        {Kind: api.While, Name: "while", Kids: []api.Node{list(simple), list(simple)}, Redirs: []api.Redir{{Op: "<", Word: want}}},
			"if " + quoted + "; then " + quoted + "; else " + quoted + "; fi": {Kind: api.If, Kids: []api.Node{list(simple), list(simple), list(simple)}},
		} {
			if got, f := syntax.Parse(script); f != api.OK || !same(got, list(node)) {
				t.Errorf("P2: %q: %s and %d, want %s", script, told(got), f, told(node))
			}
		}
	}
}

// lists calls f for each list in a node.
func lists(n *api.Node, f func(list reflect.Value)) {
	var walk func(reflect.Value)
	walk = func(v reflect.Value) {
		switch v.Kind() {
		case reflect.Struct:
			for i := range v.NumField() {
				walk(v.Field(i))
			}
		case reflect.Slice:
			f(v)
			for i := range v.Len() {
				walk(v.Index(i))
			}
		}
	}
	walk(reflect.ValueOf(n).Elem())
}

// TestListsAreApart changes each list of a tree, behind its end as well, without any effect on the others.
func TestListsAreApart(t *testing.T) {
	for _, script := range append(validScripts()[:300], "a=1 b > c; ! d | e && f; for x in a b; do g; done; case h in i|j) k;; esac; if a; then b; elif c; then d; fi; l() (m)") {
		tree, _ := syntax.Parse(script)
		seen := map[uintptr]bool{}
		lists(&tree, func(list reflect.Value) {
			if list.Cap() == 0 {
				return
			}
			size := list.Type().Elem().Size()
			for i := range list.Cap() {
				if at := list.Pointer() + uintptr(i)*size; seen[at] {
					t.Fatalf("R3: %q: two lists share an element", script)
				} else {
					seen[at] = true
				}
			}
		})
	}
}

// TestParseAgain has no result that depends on earlier calls, or on what is done to their results.
func TestParseAgain(t *testing.T) {
	for _, script := range validScripts()[:300] {
		first, _ := syntax.Parse(script)
		want := plain(first)
		syntax.Parse("a ${}")
		syntax.Parse("for x in b; do c=1 d > e; done")
		if !same(first, want) {
			t.Errorf("R4: a later call changed %s to %s", told(want), told(first))
		}
		lists(&first, func(list reflect.Value) {
			for i := range list.Len() {
				list.Index(i).SetZero()
			}
		})
		if second, f := syntax.Parse(script); f != api.OK || !same(second, want) {
			t.Errorf("R4: %q: %s and %d, want %s", script, told(second), f, told(want))
		}
	}
}
