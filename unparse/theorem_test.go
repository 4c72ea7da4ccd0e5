package unparse_test

import (
	"reflect"
	"strings"
	"testing"

	"scullion/api"
	"scullion/syntax"
	"scullion/unparse"
	"scullion/word"
)

// same tells whether two nodes are equal.
func same(a, b api.Node) bool { return sameValues(reflect.ValueOf(a), reflect.ValueOf(b)) }

// sameValues tells whether two values are equal. An empty list may be nil or not.
func sameValues(a, b reflect.Value) bool {
	switch a.Kind() {
	case reflect.Struct:
		for i := range a.NumField() {
			if !sameValues(a.Field(i), b.Field(i)) {
				return false
			}
		}
		return true
	case reflect.Slice:
		for i := range min(a.Len(), b.Len()) {
			if !sameValues(a.Index(i), b.Index(i)) {
				return false
			}
		}
		return a.Len() == b.Len()
	}
	return a.Equal(b)
}

// checkTheorem fails unless J4 holds for a script, if it has a tree. It returns that tree, and whether there is one.
func checkTheorem(t *testing.T, script string) (api.Node, bool) {
	t.Helper()
	tree, f := syntax.Parse(script)
	if f != api.OK {
		return tree, false
	}
	printed := unparse.Print(tree)
	again, f := syntax.Parse(printed)
	if f != api.OK || !same(again, tree) {
		t.Fatalf("J4: %.300q is printed as %.300q, which has the tree %.500s and %d", script, printed, model(again), f)
	}
	if twice := unparse.Print(again); twice != printed {
		t.Fatalf("J4: %.300q is printed as %.300q, and then as %.300q", script, printed, twice)
	}
	return tree, true
}

// checkPrinted fails unless a script has a tree for which J4 holds and that is printed as the given text.
func checkPrinted(t *testing.T, script, want string) {
	t.Helper()
	tree, valid := checkTheorem(t, script)
	if got := unparse.Print(tree); !valid || got != want {
		t.Errorf("J4: %.300q: %.300q, want %.300q", script, got, want)
	}
}

func TestPrintedScripts(t *testing.T) {
	for script, want := range map[string]string{
		"":                           "",
		"\n\n # a\n":                 "",
		"a":                          "a",
		"a=1 b>c&&d":                 "> c a=1 b && d",
		" a\t b # c":                 "a b",
		"a;b;":                       "a; b",
		"a\nb\n\n\nc\n":              "a; b; c",
		"a b=1 <c d >>e":             "< c >> e a b=1 d",
		"a=1 >b c= d=e=f":            "> b a=1 c= d=e=f",
		"> a if":                     "> a if",
		"a=1 if b":                   "a=1 if b",
		"a 1>b":                      "> b a 1",
		"a= ":                        "a=",
		`"a"'b'\c$d`:                 "'abc'${d}",
		`a\=b 'c'=d e''=f`:           "a'='b 'c'=d e''=f",
		`\if; 'then'; "fi"; d\o`:     "'i'f; 'then'; 'fi'; d'o'",
		`\# \a#b a#b`:                "'#' 'a'#b a#b",
		"'a\nb;c' \"d # e\"":         "'a\nb;c' 'd # e'",
		"it\\'s \"it's\"":            `it''\'''s 'it'\''s'`,
		`"a$b" "${c-d}" ${e:="f"g}`:  `'a'"${b}" "${c-'d'}" ${e:='f'g}`,
		"$(a;b) \"$( c )\" $((1))":   "$(a;b) \"$( c )\" $((1))",
		"a|b":                        "a | b",
		"!a|b":                       "!a | b",
		"! a":                        "! a",
		"! a|\n\nb|c":                "! a | b | c",
		"a&&b||! c":                  "a && b || ! c",
		"a&&\nb||\n# c\nd|e":         "a && b || d | e",
		"(a)":                        "( a )",
		"(a;b\n)|(c)>d":              "( a; b ) | ( c ) > d",
		"((a))":                      "( ( a ) )",
		"{ a;}":                      "{ a; }",
		"{\na\nb;}>c<d":              "{ a; b; } > c < d",
		"{ { a; } }":                 "{ { a; }; }",
		"if a;then b;fi":             "if a; then b; fi",
		"if a\nb\nthen c;else d\nfi": "if a; b; then c; else d; fi",
		"if a; then b; elif c; then d; elif e; then f; fi>g": "if a; then b; else if c; then d; else if e; then f; fi; fi; fi > g",
		"if a; then b; elif c; then d; else e; fi":           "if a; then b; else if c; then d; else e; fi; fi",
		"if a; then b; else if c; then d; fi; fi":            "if a; then b; else if c; then d; fi; fi",
		"if a; then b; else if c; then d; fi > e; fi > f":    "if a; then b; else if c; then d; fi > e; fi > f",
		"if a; then b; else if c; then d; fi; e; fi":         "if a; then b; else if c; then d; fi; e; fi",
		"while a;do b;done":                                  "while a; do b; done",
		"until a\ndo b;c\ndone >d":                           "until a; do b; c; done > d",
		"for x do a;done":                                    "for x; do a; done",
		"for x\n;\ndo a;done":                                "for x; do a; done",
		"for x in;do a;done":                                 "for x in; do a; done",
		"for x\nin a $b 'c'\ndo d;done>e":                    "for x in a ${b} 'c'; do d; done > e",
		"for in in in do done;do in;done":                    "for in in in do done; do in; done",
		"for if in for;do if a;then b;fi;done":               "for if in for; do if a; then b; fi; done",
		"case a in esac":                                     "case a in esac",
		"case in in in)in;esac":                              "case in in ( in ) in;; esac",
		"case $a\nin\nb|c)d;;\n(e)esac":                      "case ${a} in ( b | c ) d;; ( e ) ;; esac",
		"case a in (esac);;esac":                             "case a in ( esac ) ;; esac",
		"case a in b) c\nd\n;; (*) esac>e<f":                 "case a in ( b ) c; d;; ( * ) ;; esac > e < f",
		"case a in b) case c in d) e;; esac;; esac":          "case a in ( b ) case c in ( d ) e;; esac;; esac",
		"f(){ a;}":              "f() { a; }",
		"f ( )\n\n( a )>b":      "f() ( a ) > b",
		"in() if a;then b;fi|c": "in() if a; then b; fi | c",
		"f()\nwhile a;do b;done;g() { f() (h); }":                                "f() while a; do b; done; g() { f() ( h ); }",
		"echo a | tr a b > f; cat f":                                             "echo a | > f tr a b; cat f",
		"! { a; } && (b) || for x in c; do case d in e) f() { g; };; esac; done": "! { a; } && ( b ) || for x in c; do case d in ( e ) f() { g; };; esac; done",
	} {
		checkPrinted(t, script, want)
	}
}

// TestAllShortScripts holds all short scripts of some tokens that have trees.
func TestAllShortScripts(t *testing.T) {
	for _, c := range []struct {
		before, tokens, behind string
		most                   int // how many tokens in between
		trees                  int // how many of the scripts have trees, at least
	}{
		{"", "a a=1 'b' in if then fi do done { } ! && ;; >> ; | & ( ) < \n", "", 3, 100},
		{"", "a ! | && || ; \n #", "", 6, 1000},
		{"", "a > < a=1 if in |", "", 6, 1000},
		{"", "a { } ( ) ; >", "", 6, 1000},
		{"if", "a then elif else fi ;", "", 7, 10},
		{"if a ; then", "a ; elif else then fi >", "", 6, 20},
		{"if a ; then b ; elif", "a then elif else fi ;", "", 7, 10},
		{"while a", "; do done a until >", "", 7, 20},
		{"for", "x in do done ; \n a", "", 6, 20},
		{"case a in", "a ( ) | ;; ; esac b", "", 6, 100},
		{"case", "in ( ) | ;; \n a", "esac", 6, 20},
		{"f (", ") { } ( a ; > f", "", 6, 20},
	} {
		valid := 0
		var extend func(script string, more int)
		extend = func(script string, more int) {
			if _, ok := checkTheorem(t, script+c.behind); ok {
				valid++
			}
			for _, token := range strings.Split(c.tokens, " ") {
				if more > 0 {
					extend(script+token+" ", more-1)
				}
			}
		}
		extend(c.before+" ", c.most)
		if valid < c.trees {
			t.Errorf("J4: only %d scripts of %q behind %q have trees", valid, c.tokens, c.before)
		}
	}
}

// TestMadeScripts holds scripts of all kinds of nodes.
func TestMadeScripts(t *testing.T) {
	kinds := map[int]int{}
	var count func(api.Node)
	count = func(n api.Node) {
		kinds[n.Kind]++
		for _, kid := range n.Kids {
			count(kid)
		}
	}
	for seed := range 15000 {
		script := someScript(numbers(seed))
		tree, valid := checkTheorem(t, script)
		if !valid {
			t.Fatalf("J4: %q has no tree", script)
		}
		count(tree)
	}
	for kind := api.Simple; kind <= api.Func; kind++ {
		if kinds[kind] < 1000 {
			t.Errorf("J4: only %d nodes are of the Kind %d", kinds[kind], kind)
		}
	}
}

// TestAnyBytes has scripts of pieces that needn't be tokens.
func TestAnyBytes(t *testing.T) {
	pieces := append([]string{" ", " ", "\t", "\n", "\n", ";", ";", "|", "&&", "(", ")", "<", ">", ">>", "#", "'", "'", `"`, `"`, `\`, "$", "${", "${x-", "$(", "$((", "}", "=", "a", "x=", "\x00", "\xff", "é"}, otherTexts...)
	valid := 0
	for seed := range 100000 {
		next := numbers(seed)
		var b strings.Builder
		for range 1 + next(10) {
			b.WriteString(pieces[next(len(pieces))])
		}
		if _, ok := checkTheorem(t, b.String()); ok {
			valid++
		}
	}
	if valid < 10000 {
		t.Errorf("J4: only %d scripts have trees", valid)
	}
	for i := range 256 {
		c := string([]byte{byte(i)})
		for _, script := range []string{c, c + c, "a" + c + "b", "a " + c + " b", "a\n" + c, "x=" + c, c + "=1 a", "x" + c + "=1 a", "> " + c, `\` + c + " a", `a\` + c, "'" + c + "'", `"` + c + `"`, `"\` + c + `"`, "$" + c, `"$` + c + `"`, "${x-" + c + "}", "$(" + c + ")"} {
			checkTheorem(t, script)
		}
	}
}

// TestQuotedTexts passes every text on unchanged, wherever it stands in quotes.
func TestQuotedTexts(t *testing.T) {
	texts := append([]string{"", " ", "a b", "\n", "# a", "it's", "'", "''", `"`, `\`, `\\`, "$a", "${", "$(", "`", "é\xff\x00", "<", ">>", ";", ";;", "&&", "||", "(", ")", "*", "a;\nb"}, otherTexts...)
	escaped := strings.NewReplacer(`\`, `\\`, `"`, `\"`, "$", `\$`, "`", "\\`")
	for _, text := range texts {
		want := word.Print([]api.Part{{Kind: api.Text, Quoted: true, Text: text}})
		for _, quoted := range []string{want, `"` + escaped.Replace(text) + `"`} {
			for _, around := range []string{"Q", "Q Q", "a Q", "x=Q", "x=Q a", "> Q", "< Q a", "! Q | Q && Q", "( Q )", "{ Q; }", "if Q; then Q; else Q; fi", "while Q; do Q; done > Q", "for x in Q Q; do Q; done", "case Q in ( Q | Q ) Q;; esac", "f() ( Q ) >> Q", "${x:-Q} a=Q"} {
				checkPrinted(t, strings.ReplaceAll(around, "Q", quoted), strings.ReplaceAll(around, "Q", want))
			}
		}
	}
}

// TestDeepScripts has scripts whose commands are as deep as they may be.
func TestDeepScripts(t *testing.T) {
	for _, c := range []struct {
		before, behind string
		levels         int
	}{
		{"{ ", "; }", 1},
		{"( ", " )", 1},
		{"b && ( ", " ) | b", 1},
		{"! b | { ", "; } > b", 1},
		{"if ", "; then b; fi", 1},
		{"if b; then ", "; fi", 1},
		{"if b; then b; else ", "; fi", 1},
		{"while ", "; do b; done", 1},
		{"until b; do ", "; done", 1},
		{"for x in b; do ", "; done", 1},
		{"for x; do ", "; done", 1},
		{"case b in ( b ) ", ";; esac", 1},
		{"f() { ", "; }", 2},
		{"f() if b; then ", "; fi", 2},
	} {
		for times := range 29/c.levels + 1 {
			script := nested(c.before, "a", c.behind, times)
			checkPrinted(t, script, script)
		}
	}
	for times := range 29 {
		choices := "if a; then b; " + strings.Repeat("elif a; then b; ", times) + "fi > c"
		checkPrinted(t, choices, "if a; then b; "+strings.Repeat("else if a; then b; ", times)+strings.Repeat("fi; ", times)+"fi > c")
	}
}

// checkRefused fails unless a script has a tree whose text is over a limit, so that it has the given error.
func checkRefused(t *testing.T, script string, want api.Errno) {
	t.Helper()
	tree, f := syntax.Parse(script)
	if f != api.OK {
		t.Errorf("J4: %.300q has the error %d", script, f)
	}
	if _, f := syntax.Parse(unparse.Print(tree)); f != want {
		t.Errorf("J4: the text of %.300q has the error %d, want %d", script, f, want)
	}
}

// TestLongScripts has scripts whose texts are as long as a script may be, or longer, as blanks and braces are added.
func TestLongScripts(t *testing.T) {
	long := strings.Repeat("a", api.MaxSource)
	checkPrinted(t, long, long)
	checkPrinted(t, "'"+long[2:]+"'", "'"+long[2:]+"'")
	checkPrinted(t, "$"+long[3:], "${"+long[3:]+"}")
	checkRefused(t, "$"+long[2:], api.ErrLong)
	checkPrinted(t, ">"+long[2:], "> "+long[2:])
	checkRefused(t, ">"+long[1:], api.ErrLong)
	checkPrinted(t, strings.Repeat("a;", 6667), strings.Repeat("a; ", 6666)+"a")
	checkRefused(t, strings.Repeat("a;", 6668), api.ErrLong)
	checkPrinted(t, strings.Repeat("\n", api.MaxSource-1)+"a", "a")
}

// nested returns a text within so many units of a kind.
func nested(opening, text, closing string, depth int) string {
	return strings.Repeat(opening, depth) + text + strings.Repeat(closing, depth)
}

// TestNestedWords has words with as many units in one another as there may be, or with more in the printed text, where each quoted part has quotes of its own and each name has braces.
func TestNestedWords(t *testing.T) {
	for _, around := range []string{"W", "a W W", "x=W", "> W", "( a ) > W", "for x in W; do W; done", "case W in ( W | W ) W;; esac"} {
		in := func(word string) string { return strings.ReplaceAll(around, "W", word) }
		for n := range 30 {
			checkPrinted(t, in(nested("${a-", "b", "}", n)), in(nested("${a-", "b", "}", n)))
			checkPrinted(t, in(nested("${a-", "'b'", "}", n)), in(nested("${a-", "'b'", "}", n)))
			if n <= 28 {
				checkPrinted(t, in(nested("${a-", "$b", "}", n)), in(nested("${a-", "${b}", "}", n)))
			} else {
				checkRefused(t, in(nested("${a-", "$b", "}", n)), api.ErrQuote)
			}
		}
		for n := 1; n <= 28; n++ {
			quoted, printed := `"`+nested("${a-", "b", "}", n)+`"`, nested(`"${a-`, "'b'", `}"`, n)
			if n <= 14 {
				checkPrinted(t, in(quoted), in(printed))
				checkPrinted(t, in(printed), in(printed))
			} else {
				checkRefused(t, in(quoted), api.ErrQuote)
			}
		}
	}
}
