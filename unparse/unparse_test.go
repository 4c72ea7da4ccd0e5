package unparse_test

import (
	"math"
	"testing"

	"scullion/api"
	"scullion/unparse"
	"scullion/word"
)

// parts returns the parts of a text, which must have some.
func parts(text string) []api.Part {
	l, f := word.Parse(text)
	if f != api.OK {
		panic(text)
	}
	return l
}

// wordsOf returns the words that texts make.
func wordsOf(texts ...string) (l [][]api.Part) {
	for _, text := range texts {
		l = append(l, parts(text))
	}
	return l
}

// redir returns a redirection.
func redir(op, text string) api.Redir { return api.Redir{Op: op, Word: parts(text)} }

// assign returns an assignment.
func assign(name, text string) api.Assign { return api.Assign{Name: name, Value: parts(text)} }

// cmd returns a simple command of words.
func cmd(texts ...string) api.Node { return api.Node{Words: wordsOf(texts...)} }

// nodes returns nodes as a list.
func nodes(l ...api.Node) []api.Node { return l }

// lists returns a list of one simple command for each text.
func lists(texts ...string) (l []api.Node) {
	for _, text := range texts {
		l = append(l, api.Node{Kind: api.List, Kids: nodes(cmd(text))})
	}
	return l
}

// nodeCase is a node and its text.
type nodeCase struct {
	node api.Node
	want string
}

// checkAll fails unless each node has its text.
func checkAll(t *testing.T, promise string, cases []nodeCase) {
	t.Helper()
	for _, c := range cases {
		if got := unparse.Print(c.node); got != c.want {
			t.Errorf("%s: %+v: %q, want %q", promise, c.node, got, c.want)
		}
	}
}

func TestSimple(t *testing.T) {
	one := []api.Part{{Kind: api.Text, Text: "a"}}
	checkAll(t, "J2", []nodeCase{
		{api.Node{}, ""},
		{cmd("a"), "a"},
		{cmd("a", "b", "c"), "a b c"},
		{cmd("a", "'b c'", `"$d"`, `\e`, "$f", "${g:-h}", "$(i; j)", "$((1+2))"), `a 'b c' "${d}" 'e' ${f} ${g:-h} $(i; j) $((1+2))`},
		{api.Node{Redirs: []api.Redir{redir(">", "a")}}, "> a"},
		{api.Node{Redirs: []api.Redir{redir(">", "a"), redir("<", "$b"), redir(">>", "'c'")}}, "> a < ${b} >> 'c'"},
		{api.Node{Assigns: []api.Assign{assign("a", "b")}}, "a=b"},
		{api.Node{Assigns: []api.Assign{assign("a", "b"), assign("c", ""), assign("d", "'e f'"), assign("g", "h=$i")}}, "a=b c= d='e f' g=h=${i}"},
		{api.Node{Redirs: []api.Redir{redir("<", "a")}, Words: wordsOf("b")}, "< a b"},
		{api.Node{Assigns: []api.Assign{assign("a", "b")}, Words: wordsOf("c")}, "a=b c"},
		{api.Node{Assigns: []api.Assign{assign("a", "b")}, Redirs: []api.Redir{redir(">", "c")}}, "> c a=b"},
		{api.Node{Words: wordsOf("a", "b"), Assigns: []api.Assign{assign("c", "d"), assign("e", "f")}, Redirs: []api.Redir{redir(">", "g"), redir("<", "h")}}, "> g < h c=d e=f a b"},
		// The order of the lists stays, also where texts are equal.
		{api.Node{Words: wordsOf("b", "a", "b"), Assigns: []api.Assign{assign("d", "2"), assign("c", "1"), assign("d", "3")}, Redirs: []api.Redir{redir(">", "f"), redir(">", "e"), redir(">", "f")}}, "> f > e > f d=2 c=1 d=3 b a b"},
		// Texts of their own: words that mean something elsewhere, and names and Ops that no script has.
		{cmd("if", "}", "!"), "if } !"},
		{api.Node{Words: [][]api.Part{nil}}, ""},
		{api.Node{Words: [][]api.Part{nil, {}, nil}}, "  "},
		{api.Node{Words: [][]api.Part{one, nil, one}}, "a  a"},
		{api.Node{Words: [][]api.Part{{{Kind: 9}, {Kind: -1, Quoted: true}}}}, `""`},
		{api.Node{Words: [][]api.Part{{{Kind: api.Text, Text: "a;\n#"}}}}, "a;\n#"},
		{api.Node{Redirs: []api.Redir{{}}}, " "},
		{api.Node{Redirs: []api.Redir{{}, {}}}, "   "},
		{api.Node{Redirs: []api.Redir{{Op: "2>&"}, {Word: one}}}, "2>&   a"},
		{api.Node{Assigns: []api.Assign{{}}}, "="},
		{api.Node{Assigns: []api.Assign{{Name: "1 -"}, {Value: one}}}, "1 -= =a"},
	})
}

func TestPipe(t *testing.T) {
	a, b, c := cmd("a"), cmd("b", "-n"), cmd("c")
	sub := api.Node{Kind: api.Sub, Kids: lists("d"), Redirs: []api.Redir{redir(">", "e")}}
	checkAll(t, "J1", []nodeCase{
		{api.Node{Kind: api.Pipe}, ""},
		{api.Node{Kind: api.Pipe, Not: true}, "! "},
		{api.Node{Kind: api.Pipe, Kids: nodes(a)}, "a"},
		{api.Node{Kind: api.Pipe, Not: true, Kids: nodes(a)}, "! a"},
		{api.Node{Kind: api.Pipe, Kids: nodes(a, b)}, "a | b -n"},
		{api.Node{Kind: api.Pipe, Not: true, Kids: nodes(a, b)}, "! a | b -n"},
		{api.Node{Kind: api.Pipe, Kids: nodes(c, sub, a)}, "c | ( d ) > e | a"},
		{api.Node{Kind: api.Pipe, Not: true, Kids: nodes(sub, a, b, c)}, "! ( d ) > e | a | b -n | c"},
		{api.Node{Kind: api.Pipe, Kids: make([]api.Node, 3)}, " |  | "},
		{api.Node{Kind: api.Pipe, Kids: nodes(api.Node{Kind: api.Pipe, Not: true, Kids: nodes(a, b)}, c)}, "! a | b -n | c"},
	})
}

func TestAndOr(t *testing.T) {
	a, b, c := cmd("a"), cmd("b", "-n"), cmd("c")
	checkAll(t, "J1", []nodeCase{
		{api.Node{Kind: api.AndOr}, ""},
		{api.Node{Kind: api.AndOr, Ops: []string{"&&"}}, ""},
		{api.Node{Kind: api.AndOr, Kids: nodes(a)}, "a"},
		{api.Node{Kind: api.AndOr, Kids: nodes(a), Ops: []string{"&&"}}, "a"},
		{api.Node{Kind: api.AndOr, Kids: nodes(a, b), Ops: []string{"&&"}}, "a && b -n"},
		{api.Node{Kind: api.AndOr, Kids: nodes(a, b), Ops: []string{"||"}}, "a || b -n"},
		{api.Node{Kind: api.AndOr, Kids: nodes(a, b, c), Ops: []string{"||", "&&"}}, "a || b -n && c"},
		{api.Node{Kind: api.AndOr, Kids: nodes(a, b, c, a), Ops: []string{"&&", "||", "||"}}, "a && b -n || c || a"},
		{api.Node{Kind: api.AndOr, Kids: nodes(api.Node{Kind: api.Pipe, Not: true, Kids: nodes(a, b)}, api.Node{Kind: api.Pipe, Kids: nodes(b, c)}), Ops: []string{"&&"}}, "! a | b -n && b -n | c"},
		// An Op that isn't there is the empty string, and one too many is nothing.
		{api.Node{Kind: api.AndOr, Kids: nodes(a, b)}, "a  b -n"},
		{api.Node{Kind: api.AndOr, Kids: nodes(a, b, c), Ops: []string{"&&"}}, "a && b -n  c"},
		{api.Node{Kind: api.AndOr, Kids: nodes(a, b), Ops: []string{"&&", "||"}}, "a && b -n"},
		{api.Node{Kind: api.AndOr, Kids: nodes(a, b, c), Ops: []string{"", ";;", "||"}}, "a  b -n ;; c"},
		{api.Node{Kind: api.AndOr, Kids: make([]api.Node, 3), Ops: []string{"&&", "||"}}, " &&  || "},
	})
}

func TestList(t *testing.T) {
	a, b := cmd("a"), cmd("b", "-n")
	group := api.Node{Kind: api.Group, Kids: lists("c")}
	checkAll(t, "J1", []nodeCase{
		{api.Node{Kind: api.List}, ""},
		{api.Node{Kind: api.List, Kids: nodes(a)}, "a"},
		{api.Node{Kind: api.List, Kids: nodes(a, b)}, "a; b -n"},
		{api.Node{Kind: api.List, Kids: nodes(a, group, b, a)}, "a; { c; }; b -n; a"},
		{api.Node{Kind: api.List, Kids: nodes(api.Node{Kind: api.AndOr, Kids: nodes(a, b), Ops: []string{"||"}}, api.Node{Kind: api.Pipe, Kids: nodes(a, b)})}, "a || b -n; a | b -n"},
		{api.Node{Kind: api.List, Kids: make([]api.Node, 3)}, "; ; "},
		{api.Node{Kind: api.List, Kids: nodes(api.Node{Kind: api.List}, api.Node{Kind: api.List, Kids: nodes(a, b)})}, "; a; b -n"},
	})
}

func TestGroupAndSub(t *testing.T) {
	list := api.Node{Kind: api.List, Kids: nodes(cmd("a"), cmd("b", "c"))}
	checkAll(t, "J3", []nodeCase{
		{api.Node{Kind: api.Group}, "{ ; }"},
		{api.Node{Kind: api.Group, Kids: nodes(list)}, "{ a; b c; }"},
		{api.Node{Kind: api.Group, Kids: nodes(cmd("a"), cmd("b"))}, "{ a; }"},
		{api.Node{Kind: api.Group, Kids: nodes(list), Redirs: []api.Redir{redir(">", "d")}}, "{ a; b c; } > d"},
		{api.Node{Kind: api.Sub}, "(  )"},
		{api.Node{Kind: api.Sub, Kids: nodes(list)}, "( a; b c )"},
		{api.Node{Kind: api.Sub, Kids: nodes(cmd("a"), cmd("b"))}, "( a )"},
		{api.Node{Kind: api.Sub, Kids: nodes(list), Redirs: []api.Redir{redir("<", "d"), redir(">>", "e")}}, "( a; b c ) < d >> e"},
		{api.Node{Kind: api.Sub, Kids: nodes(api.Node{Kind: api.Sub, Kids: nodes(api.Node{Kind: api.Group, Kids: lists("a")})})}, "( ( { a; } ) )"},
	})
}

func TestIf(t *testing.T) {
	inner := api.Node{Kind: api.If, Kids: lists("c", "d", "e")}
	checkAll(t, "J3", []nodeCase{
		{api.Node{Kind: api.If}, "if ; then ; fi"},
		{api.Node{Kind: api.If, Kids: lists("a")}, "if a; then ; fi"},
		{api.Node{Kind: api.If, Kids: lists("a", "b")}, "if a; then b; fi"},
		{api.Node{Kind: api.If, Kids: lists("a", "b", "c")}, "if a; then b; else c; fi"},
		{api.Node{Kind: api.If, Kids: lists("a", "b", "c", "d", "e")}, "if a; then b; else c; fi"},
		{api.Node{Kind: api.If, Kids: make([]api.Node, 3)}, "if ; then ; else ; fi"},
		{api.Node{Kind: api.If, Kids: append(lists("a", "b"), inner)}, "if a; then b; else if c; then d; else e; fi; fi"},
		{api.Node{Kind: api.If, Kids: lists("a", "b"), Redirs: []api.Redir{redir(">", "c")}}, "if a; then b; fi > c"},
		{api.Node{Kind: api.If, Kids: lists("a", "b", "c"), Redirs: []api.Redir{redir(">", "d"), redir("<", "e")}}, "if a; then b; else c; fi > d < e"},
	})
}

func TestWhile(t *testing.T) {
	checkAll(t, "J3", []nodeCase{
		{api.Node{Kind: api.While}, " ; do ; done"},
		{api.Node{Kind: api.While, Name: "while"}, "while ; do ; done"},
		{api.Node{Kind: api.While, Name: "while", Kids: lists("a")}, "while a; do ; done"},
		{api.Node{Kind: api.While, Name: "while", Kids: lists("a", "b")}, "while a; do b; done"},
		{api.Node{Kind: api.While, Name: "until", Kids: lists("a", "b")}, "until a; do b; done"},
		{api.Node{Kind: api.While, Name: "as long as", Kids: lists("a", "b", "c")}, "as long as a; do b; done"},
		{api.Node{Kind: api.While, Name: "until", Kids: lists("a", "b"), Redirs: []api.Redir{redir("<", "c"), redir(">", "d")}}, "until a; do b; done < c > d"},
	})
}

func TestFor(t *testing.T) {
	in := []string{"in"}
	checkAll(t, "J3", []nodeCase{
		{api.Node{Kind: api.For}, "for ; do ; done"},
		{api.Node{Kind: api.For, Ops: in}, "for  in; do ; done"},
		{api.Node{Kind: api.For, Name: "x", Kids: lists("a")}, "for x; do a; done"},
		{api.Node{Kind: api.For, Name: "x", Ops: in, Kids: lists("a")}, "for x in; do a; done"},
		{api.Node{Kind: api.For, Name: "x", Ops: in, Words: wordsOf("b"), Kids: lists("a")}, "for x in b; do a; done"},
		{api.Node{Kind: api.For, Name: "x", Ops: in, Words: wordsOf("b", "$c", "'d e'"), Kids: lists("a", "f")}, "for x in b ${c} 'd e'; do a; done"},
		{api.Node{Kind: api.For, Name: "x", Ops: in, Words: [][]api.Part{nil, nil}, Kids: lists("a")}, "for x in  ; do a; done"},
		// Without Ops the words are nothing; which Ops there are makes no difference.
		{api.Node{Kind: api.For, Name: "x", Words: wordsOf("b", "c"), Kids: lists("a")}, "for x; do a; done"},
		{api.Node{Kind: api.For, Name: "x", Ops: []string{}, Words: wordsOf("b"), Kids: lists("a")}, "for x; do a; done"},
		{api.Node{Kind: api.For, Name: "x", Ops: []string{""}, Words: wordsOf("b"), Kids: lists("a")}, "for x in b; do a; done"},
		{api.Node{Kind: api.For, Name: "x", Ops: []string{"&&", "of"}, Words: wordsOf("b"), Kids: lists("a")}, "for x in b; do a; done"},
		{api.Node{Kind: api.For, Name: "in", Ops: in, Words: wordsOf("in", "do"), Kids: lists("a"), Redirs: []api.Redir{redir(">", "d"), redir("<", "e")}}, "for in in in do; do a; done > d < e"},
		{api.Node{Kind: api.For, Name: "x", Kids: lists("a"), Redirs: []api.Redir{redir(">>", "d")}}, "for x; do a; done >> d"},
	})
}

func TestCase(t *testing.T) {
	empty := api.Node{Kind: api.Item, Words: wordsOf("b"), Kids: nodes(api.Node{Kind: api.List})}
	item := api.Node{Kind: api.Item, Words: wordsOf("c*", "'d'"), Kids: lists("e")}
	checkAll(t, "J3", []nodeCase{
		{api.Node{Kind: api.Case}, "case  in esac"},
		{api.Node{Kind: api.Case, Words: wordsOf("a")}, "case a in esac"},
		{api.Node{Kind: api.Case, Words: wordsOf("$a", "b", "c")}, "case ${a} in esac"},
		{api.Node{Kind: api.Case, Words: [][]api.Part{nil, parts("b")}}, "case  in esac"},
		{api.Node{Kind: api.Case, Words: wordsOf("a"), Kids: nodes(empty)}, "case a in ( b ) ;; esac"},
		{api.Node{Kind: api.Case, Words: wordsOf("a"), Kids: nodes(empty, item, empty)}, "case a in ( b ) ;; ( c* | 'd' ) e;; ( b ) ;; esac"},
		{api.Node{Kind: api.Case, Kids: nodes(item)}, "case  in ( c* | 'd' ) e;; esac"},
		{api.Node{Kind: api.Case, Words: wordsOf("a"), Kids: make([]api.Node, 2)}, "case a in   esac"},
		{api.Node{Kind: api.Case, Words: wordsOf("a"), Kids: nodes(cmd("b", "c"), api.Node{Kind: 12})}, "case a in b c  esac"},
		{api.Node{Kind: api.Case, Words: wordsOf("a"), Kids: nodes(item), Redirs: []api.Redir{redir(">", "f"), redir("<", "g")}}, "case a in ( c* | 'd' ) e;; esac > f < g"},
	})
}

func TestItem(t *testing.T) {
	checkAll(t, "J1", []nodeCase{
		{api.Node{Kind: api.Item}, "(  ) ;;"},
		{api.Node{Kind: api.Item, Words: wordsOf("a")}, "( a ) ;;"},
		{api.Node{Kind: api.Item, Kids: lists("a")}, "(  ) a;;"},
		{api.Node{Kind: api.Item, Words: wordsOf("a"), Kids: lists("b")}, "( a ) b;;"},
		{api.Node{Kind: api.Item, Words: wordsOf("a", "'b c'", "$d"), Kids: nodes(api.Node{Kind: api.List, Kids: nodes(cmd("e"), cmd("f"))})}, "( a | 'b c' | ${d} ) e; f;;"},
		{api.Node{Kind: api.Item, Words: [][]api.Part{nil, nil, nil}, Kids: lists("b", "c")}, "(  |  |  ) b;;"},
	})
}

func TestFunc(t *testing.T) {
	body := api.Node{Kind: api.Group, Kids: lists("a"), Redirs: []api.Redir{redir(">", "b")}}
	checkAll(t, "J1", []nodeCase{
		{api.Node{Kind: api.Func}, "() "},
		{api.Node{Kind: api.Func, Name: "f"}, "f() "},
		{api.Node{Kind: api.Func, Kids: nodes(body)}, "() { a; } > b"},
		{api.Node{Kind: api.Func, Name: "f", Kids: nodes(body)}, "f() { a; } > b"},
		{api.Node{Kind: api.Func, Name: "f g", Kids: nodes(cmd("a"), body)}, "f g() a"},
		{api.Node{Kind: api.Func, Name: "f", Kids: nodes(api.Node{Kind: api.Func, Name: "g", Kids: nodes(body)})}, "f() g() { a; } > b"},
	})
}

// full returns a node of a Kind in which each field has something.
func full(kind int) api.Node {
	return api.Node{Kind: kind, Not: true, Name: "n", Words: wordsOf("v", "w"), Assigns: []api.Assign{assign("x", "y")}, Redirs: []api.Redir{redir(">", "r"), redir("<", "s")}, Ops: []string{"&&", "||"}, Kids: nodes(cmd("a"), cmd("b"), cmd("c"), cmd("d"))}
}

func TestOtherKinds(t *testing.T) {
	var cases []nodeCase
	for _, kind := range []int{math.MinInt, math.MinInt32, -256, -12, -1, 12, 13, 24, 255, 256, 1 << 32, math.MaxInt} {
		n := full(kind)
		cases = append(cases, nodeCase{n, ""}, nodeCase{api.Node{Kind: kind}, ""},
			nodeCase{api.Node{Kind: api.List, Kids: nodes(n, cmd("a"), n)}, "; a; "},
			nodeCase{api.Node{Kind: api.Pipe, Kids: nodes(cmd("a"), n, cmd("b"))}, "a |  | b"},
			nodeCase{api.Node{Kind: api.Group, Kids: nodes(n)}, "{ ; }"})
	}
	checkAll(t, "J1", cases)
}

// TestAllFields has nodes in which each field has something, of which only those are printed that belong to the Kind.
func TestAllFields(t *testing.T) {
	checkAll(t, "J1", []nodeCase{
		{full(api.Simple), "> r < s x=y v w"},
		{full(api.Pipe), "! a | b | c | d"},
		{full(api.AndOr), "a && b || c  d"},
		{full(api.List), "a; b; c; d"},
		{full(api.Group), "{ a; } > r < s"},
		{full(api.Sub), "( a ) > r < s"},
		{full(api.If), "if a; then b; else c; fi > r < s"},
		{full(api.While), "n a; do b; done > r < s"},
		{full(api.For), "for n in v w; do a; done > r < s"},
		{full(api.Case), "case v in a b c d esac > r < s"},
		{full(api.Item), "( v | w ) a;;"},
		{full(api.Func), "n() a"},
	})
}
