package lexer

import (
	"fmt"
	"slices"
	"strings"
	"testing"

	"scullion/api"
)

func word(text string) api.Token { return api.Token{Kind: api.Word, Text: text} }

func op(text string) api.Token { return api.Token{Kind: api.Op, Text: text} }

func line() api.Token { return api.Token{Kind: api.Line, Text: "\n"} }

type list []api.Token

// words returns tokens of the Kind Word.
func words(texts ...string) list {
	var l list
	for _, text := range texts {
		l = append(l, word(text))
	}
	return l
}

// told returns a text that tells tokens, though not many of them.
func told(l list) string { return fmt.Sprintf("%.200s", fmt.Sprintf("%+v", l)) }

// checkTokens fails unless a script has the given tokens.
func checkTokens(t *testing.T, script string, want list) {
	t.Helper()
	if got, err := Tokens(script); err != api.OK || !slices.Equal(got, want) {
		t.Errorf("G1: %.70q: %s and %d, want %s", script, told(got), err, told(want))
	}
}

// checkRefused fails unless Tokens returns an error for a script, and nothing beside it.
func checkRefused(t *testing.T, script string, want api.Errno) {
	t.Helper()
	if got, err := Tokens(script); err != want || len(got) != 0 {
		t.Errorf("G1: %.70q: %s and %d, want the error %d alone", script, told(got), err, want)
	}
}

// scripts are scripts with their tokens.
var scripts = []struct {
	script string
	want   list
}{
	{"", nil},
	{" ", nil},
	{" \t\t ", nil},
	{"a", words("a")},
	{"a b", words("a", "b")},
	{"\ta \t b ", words("a", "b")},
	{"echo -n x=1 a.b /c/d,e", words("echo", "-n", "x=1", "a.b", "/c/d,e")},
	{"a\nb", list{word("a"), line(), word("b")}},
	{"\n", list{line()}},
	{"\n\n \n", list{line(), line(), line()}},
	{"a\r\nb", list{word("a\r"), line(), word("b")}},
	{"a\vb\fc", words("a\vb\fc")},
	{"! { } if fi case", words("!", "{", "}", "if", "fi", "case")},
	{"}a{b}!c]d[e*f?g~h%i@j^k:l+m-n=o,p.q/r", words("}a{b}!c]d[e*f?g~h%i@j^k:l+m-n=o,p.q/r")},
	{"`a` b`c", words("`a`", "b`c")},
	{"\x00 \xff\x80 é\u00a0b", words("\x00", "\xff\x80", "é\u00a0b")},
	{"a 'b c'&&$(d (e)) # f", list{word("a"), word("'b c'"), op("&&"), word("$(d (e))")}},
	{"f() { echo $1; }", list{word("f"), op("("), op(")"), word("{"), word("echo"), word("$1"), op(";"), word("}")}},
	{"case $x in (a|b) c;; esac", list{word("case"), word("$x"), word("in"), op("("), word("a"), op("|"), word("b"), op(")"), word("c"), op(";;"), word("esac")}},
	{"cat<a>b>>c", list{word("cat"), op("<"), word("a"), op(">"), word("b"), op(">>"), word("c")}},
	{"2>a", list{word("2"), op(">"), word("a")}},
}

// operatorScripts are scripts of operators: the longest one counts.
var operatorScripts = []struct {
	script string
	want   list
}{
	{"&& || ;; >> ; | & ( ) < >", list{op("&&"), op("||"), op(";;"), op(">>"), op(";"), op("|"), op("&"), op("("), op(")"), op("<"), op(">")}},
	{"&&||;;>>;|&()<>", list{op("&&"), op("||"), op(";;"), op(">>"), op(";"), op("|"), op("&"), op("("), op(")"), op("<"), op(">")}},
	{"&&&", list{op("&&"), op("&")}},
	{"&&&&", list{op("&&"), op("&&")}},
	{"& &", list{op("&"), op("&")}},
	{"|||", list{op("||"), op("|")}},
	{"|\t|", list{op("|"), op("|")}},
	{";;;", list{op(";;"), op(";")}},
	{";\n;", list{op(";"), line(), op(";")}},
	{">>>", list{op(">>"), op(">")}},
	{"> >", list{op(">"), op(">")}},
	{"<<", list{op("<"), op("<")}},
	{"<<<", list{op("<"), op("<"), op("<")}},
	{"<>", list{op("<"), op(">")}},
	{"><", list{op(">"), op("<")}},
	{">|", list{op(">"), op("|")}},
	{">&", list{op(">"), op("&")}},
	{"|&", list{op("|"), op("&")}},
	{"&|", list{op("&"), op("|")}},
	{";&", list{op(";"), op("&")}},
	{"((", list{op("("), op("(")}},
	{"))", list{op(")"), op(")")}},
	{")(", list{op(")"), op("(")}},
	{"()", list{op("("), op(")")}},
}

// commentScripts are scripts with a `#`, in comments and in words.
var commentScripts = []struct {
	script string
	want   list
}{
	{"#", nil},
	{"# a b; c", nil},
	{"##", nil},
	{" \t# a", nil},
	{"a # b", words("a")},
	{"a #b\nc", list{word("a"), line(), word("c")}},
	{"#a\n#b\n", list{line(), line()}},
	{"#\n\n#", list{line(), line()}},
	{"#a\\\nb", list{line(), word("b")}},
	{"# ' \" $( ${ \\\na", list{line(), word("a")}},
	{"#\\", nil},
	{"# \x00\xff\r\t\na", list{line(), word("a")}},
	{"a;#b", list{word("a"), op(";")}},
	{"a&&#b\nc", list{word("a"), op("&&"), line(), word("c")}},
	{"(#)\n)#(", list{op("("), line(), op(")")}},
	{"<#a", list{op("<")}},
	{">#a", list{op(">")}},
	{"|#a", list{op("|")}},
	{"&#a", list{op("&")}},
	{"a#b", words("a#b")},
	{"a#", words("a#")},
	{"a# b", words("a#", "b")},
	{"a##b #c", words("a##b")},
	{"''#b", words("''#b")},
	{`""#b`, words(`""#b`)},
	{"$(a)#b", words("$(a)#b")},
	{"${a}#b", words("${a}#b")},
	{`\##b`, words(`\##b`)},
	{`\ #b`, words(`\ #b`)},
	{"$#", words("$#")},
	{"$# #", words("$#")},
	{"'#' \"#\"", words("'#'", `"#"`)},
	{"$( # )", words("$( # )")},
	{"$(#\n)b", words("$(#\n)b")},
	{"$(#)\nb", list{word("$(#)"), line(), word("b")}},
	{"${#a} ${a#b} ${ #a}", words("${#a}", "${a#b}", "${ #a}")},
}

// unitScripts are scripts with units of more than one byte.
var unitScripts = []struct {
	script string
	want   list
}{
	// A backslash takes the byte after it, whatever it is.
	{`a\ b`, words(`a\ b`)},
	{`\;\|\&\(\)\<\>`, words(`\;\|\&\(\)\<\>`)},
	{"a\\\nb", words("a\\\nb")},
	{"\\\n", words("\\\n")},
	{"\\\t", words("\\\t")},
	{`\\ \\\\`, words(`\\`, `\\\\`)},
	{`\' \"`, words(`\'`, `\"`)},
	{`\$(a)`, list{word(`\$`), op("("), word("a"), op(")")}},
	{`\${a b}`, words(`\${a`, `b}`)},
	{`$\(a\)`, words(`$\(a\)`)},
	{"\\\x00 \\\xff", words("\\\x00", "\\\xff")},

	// Single quotes take everything up to the next one.
	{"''", words("''")},
	{"'a b' 'c'd'e f'", words("'a b'", "'c'd'e f'")},
	{"'\n;|&()<>#\"${$('", words("'\n;|&()<>#\"${$('")},
	{`'\'a`, words(`'\'a`)},
	{`'\' b`, words(`'\'`, "b")},
	{"'''a'", words("'''a'")},
	{"a'b'|'c'", list{word("a'b'"), op("|"), word("'c'")}},

	// Double quotes take units, but for single quotes.
	{`""`, words(`""`)},
	{`"a b"c "d"`, words(`"a b"c`, `"d"`)},
	{"\"\n;|&()<>#\"", words("\"\n;|&()<>#\"")},
	{`"it's" a`, words(`"it's"`, "a")},
	{`"'" "'"`, words(`"'"`, `"'"`)},
	{`"\"" a`, words(`"\""`, "a")},
	{`"\\" a`, words(`"\\"`, "a")},
	{`"\'"`, words(`"\'"`)},
	{`"(" a ")"`, words(`"("`, "a", `")"`)},
	{`"{" "}" ")"`, words(`"{"`, `"}"`, `")"`)},
	{`"$" "$a" "$"`, words(`"$"`, `"$a"`, `"$"`)},
	{`"$"(a`, list{word(`"$"`), op("("), word("a")}},
	{`"$(a "b c")" d`, words(`"$(a "b c")"`, "d")},
	{`"${a:-"b c"}" d`, words(`"${a:-"b c"}"`, "d")},
	{`"$(a 'b")c')" d`, words(`"$(a 'b")c')"`, "d")},
	{`"${a-'b"}c'}" d`, words(`"${a-'b"}c'}"`, "d")},
	{`"$('"')'"`, words(`"$('"')'"`)},
	{`"${'"'}'"`, words(`"${'"'}'"`)},
	{`"$("'")"`, words(`"$("'")"`)},
	{`"$(("'"))"`, words(`"$(("'"))"`)},
	{`"$(('"'))"`, words(`"$(('"'))"`)},

	// A command substitution takes units, and parentheses.
	{"$()", words("$()")},
	{"$(a b) c", words("$(a b)", "c")},
	{"a$(b)c$(d)e", words("a$(b)c$(d)e")},
	{"$(a\n;|&<>#)", words("$(a\n;|&<>#)")},
	{"$(a (b (c) d) e)f g", words("$(a (b (c) d) e)f", "g")},
	{"$((1 + (2)) ) a", words("$((1 + (2)) )", "a")},
	{"$((1 + 2)) a", words("$((1 + 2))", "a")},
	{"$(()) $(()())", words("$(())", "$(()())")},
	{"$(a ')' b) c", words("$(a ')' b)", "c")},
	{"$(a '(' b) c", words("$(a '(' b)", "c")},
	{`$(a ")" b) c`, words(`$(a ")" b)`, "c")},
	{`$(a "(" b) c`, words(`$(a "(" b)`, "c")},
	{`$(a \) b) c`, words(`$(a \) b)`, "c")},
	{`$(a \( b) c`, words(`$(a \( b)`, "c")},
	{`$((a \) b)) c`, words(`$((a \) b))`, "c")},
	{"$((')')) c", words("$((')'))", "c")},
	{"$(${a-)}) c", words("$(${a-)})", "c")},
	{"$(${a-(}) c", words("$(${a-(})", "c")},
	{"$((${a-(})) c", words("$((${a-(}))", "c")},
	{"$(a $(b) c) d", words("$(a $(b) c)", "d")},
	{"$(a { b ) }", words("$(a { b )", "}")},
	{"$(} \\\" ) a", words("$(} \\\" )", "a")},
	{"$($) a", words("$($)", "a")},
	{"$$(a b)c $$", words("$$(a b)c", "$$")},

	// Braces take units, and no parentheses.
	{"${}", words("${}")},
	{"${a} ${b c}d e", words("${a}", "${b c}d", "e")},
	{"${a\n;|&<>#}", words("${a\n;|&<>#}")},
	{"${a-{} b}", words("${a-{}", "b}")},
	{"${a-(} b", words("${a-(}", "b")},
	{"${a-)} b", words("${a-)}", "b")},
	{"${a-'}'} b", words("${a-'}'}", "b")},
	{`${a-"}"} b`, words(`${a-"}"}`, "b")},
	{`${a-\}} b`, words(`${a-\}}`, "b")},
	{"${a-${b-c d}} e", words("${a-${b-c d}}", "e")},
	{"${a-$(b })} c", words("${a-$(b })}", "c")},
	{"${a-$(b (})} c)}", words("${a-$(b (})} c)}")},
	{`${a-"$("} b")"} c`, words(`${a-"$("} b")"}`, "c")},
	{"${$} a", words("${$}", "a")},
	{"$${a b}c", words("$${a b}c")},

	// A dollar alone is a byte.
	{"$", words("$")},
	{"$ a", words("$", "a")},
	{"$a $1 $$ $@", words("$a", "$1", "$$", "$@")},
	{"$;a", list{word("$"), op(";"), word("a")}},
	{"$)", list{word("$"), op(")")}},
	{"$\n(a)", list{word("$"), line(), op("("), word("a"), op(")")}},
	{"$'a b' $\"c d\"", words("$'a b'", "$\"c d\"")},
	{"$ (a)", list{word("$"), op("("), word("a"), op(")")}},
}

func TestTokens(t *testing.T) {
	for _, c := range scripts {
		checkTokens(t, c.script, c.want)
	}
}

func TestOperators(t *testing.T) {
	for _, c := range operatorScripts {
		checkTokens(t, c.script, c.want)
	}
}

func TestComments(t *testing.T) {
	for _, c := range commentScripts {
		checkTokens(t, c.script, c.want)
	}
}

func TestUnits(t *testing.T) {
	for _, c := range unitScripts {
		checkTokens(t, c.script, c.want)
	}
}

// TestOperatorsAndWords puts each operator directly between two words, and into units.
func TestOperatorsAndWords(t *testing.T) {
	for _, c := range []string{"&&", "||", ";;", ">>", ";", "|", "&", "(", ")", "<", ">"} {
		checkTokens(t, c, list{op(c)})
		checkTokens(t, "a"+c+"b", list{word("a"), op(c), word("b")})
		checkTokens(t, "'a'"+c+`"b"`, list{word("'a'"), op(c), word(`"b"`)})
		checkTokens(t, "${a}"+c+"$(b)", list{word("${a}"), op(c), word("$(b)")})
		for _, unit := range []string{`\` + c[:1], "'" + c + "'", `"` + c + `"`, "${a" + c + "}"} {
			checkTokens(t, "a"+unit+"b c", words("a"+unit+"b", "c"))
		}
	}
}

// TestBytes reads each byte alone, between two others, and behind a backslash.
func TestBytes(t *testing.T) {
	for i := range 256 {
		c := string([]byte{byte(i)})
		checkTokens(t, `\`+c, words(`\`+c))
		checkTokens(t, `a\`+c+"b c", words(`a\`+c+"b", "c"))
		switch c {
		case " ", "\t":
			checkTokens(t, c, nil)
			checkTokens(t, "a"+c+"b", words("a", "b"))
		case "\n":
			checkTokens(t, c, list{line()})
			checkTokens(t, "a"+c+"b", list{word("a"), line(), word("b")})
		case ";", "|", "&", "(", ")", "<", ">":
			checkTokens(t, c, list{op(c)})
			checkTokens(t, "a"+c+"b", list{word("a"), op(c), word("b")})
		case "'", `"`:
			checkRefused(t, c, api.ErrQuote)
			checkRefused(t, "a"+c+"b", api.ErrQuote)
			checkTokens(t, c+"a b"+c, words(c+"a b"+c))
		case "#":
			checkTokens(t, c, nil)
			checkTokens(t, "a"+c+"b", words("a"+c+"b"))
		case `\`:
			checkRefused(t, c, api.ErrQuote)
			checkTokens(t, "a"+c+"b", words("a"+c+"b"))
		default:
			checkTokens(t, c+" "+c, words(c, c))
			checkTokens(t, "a"+c+"b", words("a"+c+"b"))
		}
	}
}

// unclosed are words with a unit that is not closed, or with a backslash at the end.
var unclosed = []string{
	`\`, `a\`, `\\\`, `'a'\`,
	"'", "a'", "'a b", "'''", "'a''", `'a"`, `'\`, `'\'\`, "'a\n", "'#",
	`"`, `a"`, `"a b`, `"""`, `"\"`, `"a\`, `"'`, `"a'b`, `"$`, `"$(a)`, `"${a}`, "\"a\n", `"#`,
	"$(", "a$(", "$(a b", "$(a (b)", "$((a)", "$((a b", "$(()", "$(a ( ( ) )", `$(\)`, `$(a \`, "$(')", `$(")`, "$('a)'", `$("a)"`, "$(${)", "$(${a)", "$(a $(b)", "$(a\n", "$(}",
	"${", "a${", "${a b", "${a-${b}", `${\}`, `${a-\`, "${'}", `${"}`, "${a-'b}'", `${a-"b}"`, "${$(}", "${a-$(b}", "${a-$(b}}", "${a\n", "${#", "${)", "${(",
	`"$(a"`, `"$(a")`, `"${a"`, `"${a"}`, `"$(a 'b)"`, `"${a'b}"`, `"$(a 'b")`, `"$("`, `"${"`, `"$('")'`, `"${'"}'`, `"$("a)"`, `"$(("'")"`,
}

func TestUnclosedUnits(t *testing.T) {
	for _, unit := range unclosed {
		checkRefused(t, unit, api.ErrQuote)
		// What stands before it has tokens, which are not returned.
		checkRefused(t, "a b; c\n"+unit, api.ErrQuote)
		checkRefused(t, "a&&"+unit, api.ErrQuote)
		// In a comment nothing has to be closed.
		checkTokens(t, "a #"+strings.ReplaceAll(unit, "\n", " ")+"\nb", list{word("a"), line(), word("b")})
	}
}

// nests are the beginnings of units in which others may stand, with their ends.
var nests = [][2]string{{`"`, `"`}, {"$(", ")"}, {"${", "}"}, {"(", ")"}}

// fits tells whether a nest is a unit if it stands directly in another one.
func fits(inner, outer [2]string) bool {
	return (inner[0] != "(" || outer[1] == ")") && (inner[0] != `"` || outer[0] != `"`)
}

// chains returns lists of nests, each of which fits into the one before it: of all kinds at the beginning, and of all kinds in turn.
func chains(length int) [][][2]string {
	var all [][][2]string
	for _, first := range nests[:3] {
		for _, odd := range nests {
			for _, even := range nests {
				chain := [][2]string{first}
				for i := 1; i < length; i++ {
					chain = append(chain, [][2]string{even, odd}[i%2])
				}
				if fits(odd, first) && fits(even, odd) && fits(odd, even) {
					all = append(all, chain)
				}
			}
		}
	}
	return all
}

// nested returns a text within a chain of nests.
func nested(chain [][2]string, text string) string {
	for _, nest := range slices.Backward(chain) {
		text = nest[0] + text + nest[1]
	}
	return text
}

// innerUnits are units, or a few of them, in every nest but those that end with their first byte.
var innerUnits = []string{"a", "ab", " ", "\n", "\x00", "#", "$", "$a", ";", "<", "{", "é", `\a`, `\\`, "\\\n", "''", "'a'", `""`, "$()", "${}", "()"}

func TestDepth(t *testing.T) {
	if n := len(chains(31)); n != 27 {
		t.Errorf("G1: there are %d chains", n)
	}
	for _, chain := range chains(100) {
		for n := range 30 {
			checkTokens(t, nested(chain[:n+1], ""), words(nested(chain[:n+1], "")))
		}
		for n := 31; n <= len(chain); n++ {
			checkRefused(t, nested(chain[:n], ""), api.ErrQuote)
		}
	}
}

// TestDepthOfUnits puts units into 29 others and so, with the word, into 30, and then into one more, where even a single byte is too deep.
func TestDepthOfUnits(t *testing.T) {
	for _, chain := range chains(30) {
		for _, unit := range innerUnits {
			if unit[0] != chain[28][1][0] {
				script := nested(chain[:29], unit)
				checkTokens(t, "a "+script+" b", words("a", script, "b"))
				checkTokens(t, "a"+script+script+"b", words("a"+script+script+"b"))
			}
			if unit[0] != chain[29][1][0] {
				script := nested(chain, unit)
				checkRefused(t, script, api.ErrQuote)
				checkRefused(t, "a; b"+script+"\nc", api.ErrQuote)
			}
		}
	}
}

// TestDepthOfSingleQuotes has a single quote that is a byte within double quotes, as deeply as it may be, and one deeper.
func TestDepthOfSingleQuotes(t *testing.T) {
	quotes := 0
	for _, chain := range chains(30) {
		if chain[28][0] == `"` {
			script := nested(chain[:29], "'")
			checkTokens(t, script+" b", words(script, "b"))
			quotes++
		}
		if chain[29][0] == `"` {
			checkRefused(t, nested(chain, "'"), api.ErrQuote)
			quotes++
		}
	}
	if quotes != 10 {
		t.Errorf("G1: %d chains end with double quotes", quotes)
	}
}

// TestUnitsInARow has many units side by side, which are nested in as few as the first of them.
func TestUnitsInARow(t *testing.T) {
	row := strings.Repeat("$(a)${b}\"c'\"'d'\\e", 100)
	checkTokens(t, row, words(row))
	for _, nest := range nests[:3] {
		if nest[0] != `"` {
			checkTokens(t, nest[0]+row+nest[1], words(nest[0]+row+nest[1]))
		}
	}
	for _, chain := range chains(28) {
		if chain[27][0] != `"` {
			checkTokens(t, nested(chain, row), words(nested(chain, row)))
		}
	}
	parens := "$(" + strings.Repeat("(a)", 100) + ")"
	checkTokens(t, parens, words(parens))
}

func TestLengths(t *testing.T) {
	for _, n := range []int{19998, 19999, 20000} {
		checkTokens(t, strings.Repeat("a", n), words(strings.Repeat("a", n)))
		checkTokens(t, strings.Repeat(" ", n), nil)
		checkTokens(t, "#"+strings.Repeat("a", n-1), nil)
		checkTokens(t, strings.Repeat("\n", n), slices.Repeat(list{line()}, n))
		checkTokens(t, strings.Repeat("(", n), slices.Repeat(list{op("(")}, n))
		checkTokens(t, "'"+strings.Repeat(" ", n-2)+"'", words("'"+strings.Repeat(" ", n-2)+"'"))
		checkTokens(t, "$("+strings.Repeat(" ", n-3)+")", words("$("+strings.Repeat(" ", n-3)+")"))
		for _, opening := range []string{"'", `"`, "$(", "${"} {
			checkRefused(t, opening+strings.Repeat(" ", n-len(opening)), api.ErrQuote)
		}
		checkRefused(t, strings.Repeat(" ", n-1)+`\`, api.ErrQuote)
	}
	for _, n := range []int{20001, 20002, 40000, 1000000} {
		for _, c := range []string{"a", " ", "\n", "#", "(", "'", `"`, `\`, "$", "\x00"} {
			checkRefused(t, strings.Repeat(c, n), api.ErrLong)
		}
		checkRefused(t, "'"+strings.Repeat(" ", n-1), api.ErrLong)
	}
}

// TestManyOpenings has more openings than a stack would hold if each one were followed.
func TestManyOpenings(t *testing.T) {
	for _, opening := range []string{"$(", "${", "$((", `"$(`, `"${`, `"`} {
		script := strings.Repeat(opening, 20000/len(opening))
		if opening == `"` {
			checkTokens(t, script, words(script))
			continue
		}
		checkRefused(t, script, api.ErrQuote)
	}
}
