package word

import (
	"fmt"
	"slices"
	"strings"
	"testing"

	"scullion/api"
)

type list []api.Part

func text(s string) api.Part { return api.Part{Kind: api.Text, Text: s} }

func param(name string) api.Part { return api.Part{Kind: api.Param, Name: name} }

func op(name, operator string, parts ...api.Part) api.Part {
	return api.Part{Kind: api.Param, Name: name, Op: operator, Word: parts}
}

func command(s string) api.Part { return api.Part{Kind: api.Command, Text: s} }

func arith(s string) api.Part { return api.Part{Kind: api.Arith, Text: s} }

// quoted returns a part that is quoted; those in its Word are as they were.
func quoted(p api.Part) api.Part {
	p.Quoted = true
	return p
}

// qtext returns a quoted Text.
func qtext(s string) api.Part { return quoted(text(s)) }

// samePart tells whether two parts are equal, where an empty Word may be nil or not.
func samePart(a, b api.Part) bool {
	return a.Kind == b.Kind && a.Quoted == b.Quoted && a.Text == b.Text && a.Name == b.Name && a.Op == b.Op && slices.EqualFunc(a.Word, b.Word, samePart)
}

func same(a, b list) bool { return slices.EqualFunc(a, b, samePart) }

// told returns a text that tells parts, though not many of them.
func told(l list) string { return fmt.Sprintf("%.300s", fmt.Sprintf("%+v", l)) }

// checkParts fails unless a string has the given parts.
func checkParts(t *testing.T, s string, want ...api.Part) {
	t.Helper()
	if got, f := Parse(s); f != api.OK || !same(got, want) {
		t.Errorf("H1: %.100q: %s and %d, want %s", s, told(got), f, told(want))
	}
}

// checkRefused fails unless Parse returns an error for a string, and nothing beside it.
func checkRefused(t *testing.T, s string, want api.Errno) {
	t.Helper()
	if got, f := Parse(s); f != want || len(got) != 0 {
		t.Errorf("H1: %.100q: %s and %d, want the error %d alone", s, told(got), f, want)
	}
}

// wordCase is a string with its parts.
type wordCase struct {
	s    string
	want list
}

// textCases are strings of texts, with and without quotes.
var textCases = []wordCase{
	{"", nil},
	{"a", list{text("a")}},
	{"abc/d.e-f=g", list{text("abc/d.e-f=g")}},
	{" a\tb\nc ", list{text(" a\tb\nc ")}},
	{"a;b|c&d(e)f<g>h", list{text("a;b|c&d(e)f<g>h")}},
	{"# a", list{text("# a")}},
	{"`a` {b} [c] ~!*?%^:,+@", list{text("`a` {b} [c] ~!*?%^:,+@")}},
	{"é\u00a0\xff\x80\x00\r", list{text("é\u00a0\xff\x80\x00\r")}},

	// A backslash quotes the byte after it, and that one only.
	{`\a`, list{qtext("a")}},
	{`\ab`, list{qtext("a"), text("b")}},
	{`a\bc`, list{text("a"), qtext("b"), text("c")}},
	{`\a\b`, list{qtext("ab")}},
	{`\\`, list{qtext(`\`)}},
	{`\\\\a`, list{qtext(`\\`), text("a")}},
	{`\'a\'`, list{qtext("'"), text("a"), qtext("'")}},
	{`\"a\"`, list{qtext(`"`), text("a"), qtext(`"`)}},
	{`\$a`, list{qtext("$"), text("a")}},
	{`\${a}`, list{qtext("$"), text("{a}")}},
	{`\$(a)`, list{qtext("$"), text("(a)")}},
	{"a\\\nb", list{text("a"), qtext("\n"), text("b")}},
	{"\\é", list{qtext("\xc3"), text("\xa9")}},

	// Single quotes quote everything.
	{"''", list{qtext("")}},
	{"'a b'", list{qtext("a b")}},
	{"a'b'c", list{text("a"), qtext("b"), text("c")}},
	{"'a'b'c'", list{qtext("a"), text("b"), qtext("c")}},
	{`'"$a${b}$(c)\'`, list{qtext(`"$a${b}$(c)\`)}},
	{"'\n\t#'", list{qtext("\n\t#")}},
	{`'a'\''b'`, list{qtext("a'b")}},

	// Adjacent texts are one part if both are quoted, or none of them.
	{"'a''b'", list{qtext("ab")}},
	{"''''", list{qtext("")}},
	{"''''''", list{qtext("")}},
	{"'a'''", list{qtext("a")}},
	{"'''a'", list{qtext("a")}},
	{`''""`, list{qtext("")}},
	{`""''""a`, list{qtext(""), text("a")}},
	{"a''", list{text("a"), qtext("")}},
	{"''a", list{qtext(""), text("a")}},
	{"a''b", list{text("a"), qtext(""), text("b")}},
	{`a""b`, list{text("a"), qtext(""), text("b")}},
	{`'a'"b"\c`, list{qtext("abc")}},
	{`\c"b"'a'`, list{qtext("cba")}},
	{`""\a`, list{qtext("a")}},

	// Double quotes quote everything as well.
	{`""`, list{qtext("")}},
	{`"a b"`, list{qtext("a b")}},
	{`a"b"c`, list{text("a"), qtext("b"), text("c")}},
	{`"it's"`, list{qtext("it's")}},
	{`"'a'"`, list{qtext("'a'")}},
	{`"'"'"'`, list{qtext(`'"`)}},
	{"\"a\nb\t;|&()<>#{}`~*?[\"", list{qtext("a\nb\t;|&()<>#{}`~*?[")}},
	{"\"é\xff\x00\"", list{qtext("é\xff\x00")}},
	{`"\$\"\\"`, list{qtext(`$"\`)}},
	{"\"\\`\"", list{qtext("`")}},
	{"\"`a`\"", list{qtext("`a`")}},
	{`"\a\'\n\(\{\}\ "`, list{qtext(`\a\'\n\(\{\}\ `)}},
	{"\"a\\\nb\"", list{qtext("a\\\nb")}},
	{`"\\a"`, list{qtext(`\a`)}},
	{`"\\\a"`, list{qtext(`\\a`)}},
	{`"\\\\"`, list{qtext(`\\`)}},
	{`"\\$a"`, list{qtext(`\`), quoted(param("a"))}},
	{`"\\\$a"`, list{qtext(`\$a`)}},
	{`"\é"`, list{qtext(`\é`)}},
}

// dollarCases are strings with a `$` that no brace or parenthesis follows.
var dollarCases = []wordCase{
	{"$", list{text("$")}},
	{"a$", list{text("a$")}},
	{"$$", list{text("$$")}},
	{"$$$", list{text("$$$")}},
	{"$ a", list{text("$ a")}},
	{"$-a", list{text("$-a")}},
	{"$!$-$:$/$.$%$=$+$[$]$)$}$;$`$,", list{text("$!$-$:$/$.$%$=$+$[$]$)$}$;$`$,")}},
	{"$é$\xff$\x00$\n", list{text("$é$\xff$\x00$\n")}},
	{`$\a`, list{text("$"), qtext("a")}},
	{"$'a'", list{text("$"), qtext("a")}},
	{`$"a"`, list{text("$"), qtext("a")}},
	{`$""`, list{text("$"), qtext("")}},
	{`$"$a"`, list{text("$"), quoted(param("a"))}},

	{"$a", list{param("a")}},
	{"$ab", list{param("ab")}},
	{"$_", list{param("_")}},
	{"$_1aZ_9", list{param("_1aZ_9")}},
	{"$azAZ", list{param("azAZ")}},
	{"$a-b", list{param("a"), text("-b")}},
	{"$a:-b", list{param("a"), text(":-b")}},
	{"$aé", list{param("a"), text("é")}},
	{"$a\x00", list{param("a"), text("\x00")}},
	{"$a\xff", list{param("a"), text("\xff")}},
	{"$a@$a[$a`$a{$a/$a:", list{param("a"), text("@"), param("a"), text("["), param("a"), text("`"), param("a"), text("{"), param("a"), text("/"), param("a"), text(":")}},
	{"x$a/$b.c", list{text("x"), param("a"), text("/"), param("b"), text(".c")}},
	{"$a$b", list{param("a"), param("b")}},
	{"$$a", list{text("$"), param("a")}},
	{"$a$", list{param("a"), text("$")}},
	{"$a''b", list{param("a"), qtext(""), text("b")}},
	{`$a\b`, list{param("a"), qtext("b")}},

	{"$0", list{param("0")}},
	{"$1", list{param("1")}},
	{"$9", list{param("9")}},
	{"$10", list{param("1"), text("0")}},
	{"$1234", list{param("1"), text("234")}},
	{"$1a", list{param("1"), text("a")}},
	{"$1$2", list{param("1"), param("2")}},
	{"$#", list{param("#")}},
	{"$?", list{param("?")}},
	{"$@", list{param("@")}},
	{"$*", list{param("*")}},
	{"$##", list{param("#"), text("#")}},
	{"$#a", list{param("#"), text("a")}},
	{"$?1", list{param("?"), text("1")}},
	{"$@$*", list{param("@"), param("*")}},
	{"$**", list{param("*"), text("*")}},

	{`"$"`, list{qtext("$")}},
	{`"$$"`, list{qtext("$$")}},
	{`"$ "`, list{qtext("$ ")}},
	{`"$'a'"`, list{qtext("$'a'")}},
	{`"$\a"`, list{qtext(`$\a`)}},
	{`"$a"`, list{quoted(param("a"))}},
	{`"a$b"`, list{qtext("a"), quoted(param("b"))}},
	{`"$a b"`, list{quoted(param("a")), qtext(" b")}},
	{`"$a'$b'"`, list{quoted(param("a")), qtext("'"), quoted(param("b")), qtext("'")}},
	{`"$10"`, list{quoted(param("1")), qtext("0")}},
	{`"$@"`, list{quoted(param("@"))}},
	{`"$#$?$*"`, list{quoted(param("#")), quoted(param("?")), quoted(param("*"))}},
	{`"$a"$a`, list{quoted(param("a")), param("a")}},
	{`"$a""b"`, list{quoted(param("a")), qtext("b")}},
	{`"$a"""`, list{quoted(param("a")), qtext("")}},
	{`a"$b"c`, list{text("a"), quoted(param("b")), text("c")}},
	{`a'b'$c`, list{text("a"), qtext("b"), param("c")}},
}

// parenthesisCases are strings with Commands and Ariths.
var parenthesisCases = []wordCase{
	{"$()", list{command("")}},
	{"$(a)", list{command("a")}},
	{"$( a b )", list{command(" a b ")}},
	{"$(a $(b) \"c\" 'd' \\e ${f})", list{command("a $(b) \"c\" 'd' \\e ${f}")}},
	{"$(a (b (c)) d)e", list{command("a (b (c)) d"), text("e")}},
	{"$(a ')' \")\" \\) ${b-)})c", list{command("a ')' \")\" \\) ${b-)}"), text("c")}},
	{"$(a;b|c\n#d)e", list{command("a;b|c\n#d"), text("e")}},
	{"x$(a)y$(b)", list{text("x"), command("a"), text("y"), command("b")}},
	{"$(a)$(b)", list{command("a"), command("b")}},
	{`"$(a "b" 'c')"`, list{quoted(command(`a "b" 'c'`))}},
	{`"a$(b)c"`, list{qtext("a"), quoted(command("b")), qtext("c")}},
	{`"$(')"')"`, list{quoted(command(`')"'`))}},
	{"$(${)})", list{command("${)}")}},
	{"$$(a)", list{text("$"), command("a")}},
	{`\$(a)$(b)`, list{qtext("$"), text("(a)"), command("b")}},
	{"(a)$(b)", list{text("(a)"), command("b")}},

	{"$(())", list{arith("")}},
	{"$((1))", list{arith("1")}},
	{"$((1 + 2))", list{arith("1 + 2")}},
	{"$(((1)))", list{arith("(1)")}},
	{"$(((1)+(2)))", list{arith("(1)+(2)")}},
	{"$((a)(b))", list{arith("a)(b")}},
	{"$((a) (b))", list{arith("a) (b")}},
	{"$((')'))", list{arith("')'")}},
	{"$((a\n))", list{arith("a\n")}},
	{"x$((1))y", list{text("x"), arith("1"), text("y")}},
	{"$((1))$((2))", list{arith("1"), arith("2")}},
	{`"$((1))"`, list{quoted(arith("1"))}},
	{`"a$(("b"))"`, list{qtext("a"), quoted(arith(`"b"`))}},
	{"$((a)\\))", list{arith("a)\\")}},

	// What begins like an Arith and does not end like one, or the other way round, is a Command.
	{"$((a) )", list{command("(a) ")}},
	{"$((a);b)", list{command("(a);b")}},
	{"$((a);(b) )", list{command("(a);(b) ")}},
	{"$( (a))", list{command(" (a)")}},
	{"$(a(b))", list{command("a(b)")}},
	{"$(()())", list{arith(")(")}},
	{"$(()a)", list{command("()a")}},
	{"$(() )", list{command("() ")}},
	{"$(())(a)", list{arith(""), text("(a)")}},
	{"$('((1))')", list{command("'((1))'")}},
}

// braceCases are strings with Params in braces.
var braceCases = []wordCase{
	{"${a}", list{param("a")}},
	{"${ab_9Z}", list{param("ab_9Z")}},
	{"${_}", list{param("_")}},
	{"${a}b", list{param("a"), text("b")}},
	{"x${a}${b}", list{text("x"), param("a"), param("b")}},
	{"${0}", list{param("0")}},
	{"${1}", list{param("1")}},
	{"${10}", list{param("10")}},
	{"${0123456789}", list{param("0123456789")}},
	{"${#}", list{param("#")}},
	{"${?}", list{param("?")}},
	{"${@}", list{param("@")}},
	{"${*}", list{param("*")}},
	{`"${a}"`, list{quoted(param("a"))}},
	{"$${a}", list{text("$"), param("a")}},
	{"{${a}}", list{text("{"), param("a"), text("}")}},
	{"${a}}", list{param("a"), text("}")}},

	{"${#a}", list{op("a", "len")}},
	{"${#ab_9}", list{op("ab_9", "len")}},
	{"${#1}", list{op("1", "len")}},
	{"${#12}", list{op("12", "len")}},
	{"${##}", list{op("#", "len")}},
	{"${#?}", list{op("?", "len")}},
	{"${#@}", list{op("@", "len")}},
	{"${#*}", list{op("*", "len")}},
	{`"${#a}"`, list{quoted(op("a", "len"))}},

	// The name `#` with an Op looks like a length, but for what follows it.
	{"${#-}", list{op("#", "-")}},
	{"${#%}", list{op("#", "%")}},
	{"${#+a}", list{op("#", "+", text("a"))}},
	{"${#:-a}", list{op("#", ":-", text("a"))}},
	{"${###}", list{op("#", "##")}},
	{"${##a}", list{op("#", "#", text("a"))}},
	{"${##1}", list{op("#", "#", text("1"))}},
	{"${##=}", list{op("#", "#", text("="))}},
	{"${####}", list{op("#", "##", text("#"))}},
	{"${#%%a}", list{op("#", "%%", text("a"))}},
	{"${#?a}", list{op("#", "?", text("a"))}},
	{"${#:?}", list{op("#", ":?")}},

	// The longest Op counts.
	{"${a:-b}", list{op("a", ":-", text("b"))}},
	{"${a:=b}", list{op("a", ":=", text("b"))}},
	{"${a:?b}", list{op("a", ":?", text("b"))}},
	{"${a:+b}", list{op("a", ":+", text("b"))}},
	{"${a-b}", list{op("a", "-", text("b"))}},
	{"${a=b}", list{op("a", "=", text("b"))}},
	{"${a?b}", list{op("a", "?", text("b"))}},
	{"${a+b}", list{op("a", "+", text("b"))}},
	{"${a%b}", list{op("a", "%", text("b"))}},
	{"${a%%b}", list{op("a", "%%", text("b"))}},
	{"${a%%%}", list{op("a", "%%", text("%"))}},
	{"${a#b}", list{op("a", "#", text("b"))}},
	{"${a##b}", list{op("a", "##", text("b"))}},
	{"${a###}", list{op("a", "##", text("#"))}},
	{"${a#%}", list{op("a", "#", text("%"))}},
	{"${a%#}", list{op("a", "%", text("#"))}},
	{"${a-:-}", list{op("a", "-", text(":-"))}},
	{"${a--}", list{op("a", "-", text("-"))}},
	{"${a:--}", list{op("a", ":-", text("-"))}},
	{"${a==}", list{op("a", "=", text("="))}},
	{"${a-}", list{op("a", "-")}},
	{"${a:-}", list{op("a", ":-")}},
	{"${a%%}", list{op("a", "%%")}},
	{"${_=b}", list{op("_", "=", text("b"))}},
	{"${a1:=b}", list{op("a1", ":=", text("b"))}},
	{"${1-b}", list{op("1", "-", text("b"))}},
	{"${12:+b}", list{op("12", ":+", text("b"))}},
	{"${@-b}", list{op("@", "-", text("b"))}},
	{"${*#b}", list{op("*", "#", text("b"))}},
	{"${?:-b}", list{op("?", ":-", text("b"))}},
	{"${??b}", list{op("?", "?", text("b"))}},
	{"${?%?}", list{op("?", "%", text("?"))}},

	// The Word has parts of its own.
	{"${a-b c\n}", list{op("a", "-", text("b c\n"))}},
	{"${a-;|&()<>#{`}", list{op("a", "-", text(";|&()<>#{`"))}},
	{`${a-\}}`, list{op("a", "-", qtext("}"))}},
	{`${a-'}'}b`, list{op("a", "-", qtext("}")), text("b")}},
	{`${a-"}"}b`, list{op("a", "-", qtext("}")), text("b")}},
	{`${a-b'c'"d"e}`, list{op("a", "-", text("b"), qtext("cd"), text("e"))}},
	{"${a-''}", list{op("a", "-", qtext(""))}},
	{`${a-""}`, list{op("a", "-", qtext(""))}},
	{`${a-$}`, list{op("a", "-", text("$"))}},
	{`${a-$b}`, list{op("a", "-", param("b"))}},
	{`${a-$b$1c}`, list{op("a", "-", param("b"), param("1"), text("c"))}},
	{`${a-"$b"}`, list{op("a", "-", quoted(param("b")))}},
	{"${a-${b}}", list{op("a", "-", param("b"))}},
	{"${a-${b-c}d}e", list{op("a", "-", op("b", "-", text("c")), text("d")), text("e")}},
	{"${a#${b%${c}}}", list{op("a", "#", op("b", "%", param("c")))}},
	{"${a=${b:=c}}", list{op("a", "=", op("b", ":=", text("c")))}},
	{"${a-$((1+2))}", list{op("a", "-", arith("1+2"))}},
	{"${a-$((}))}", list{op("a", "-", arith("}"))}},
	{"${a-$(($(b)))}", list{op("a", "-", arith("$(b)"))}},
	{`${a-\$(b)}`, list{op("a", "-", qtext("$"), text("(b)"))}},
	{`${a-'$(b)'}`, list{op("a", "-", qtext("$(b)"))}},

	// In a quoted parameter everything is quoted, at any depth, but by the rules for what is not within quotes.
	{`"${a-b}"`, list{quoted(op("a", "-", qtext("b")))}},
	{`"${a-}"`, list{quoted(op("a", "-"))}},
	{`"${a:-b c}d"`, list{quoted(op("a", ":-", qtext("b c"))), qtext("d")}},
	{`"${a-'b'}"`, list{quoted(op("a", "-", qtext("b")))}},
	{`"${a-b'c'\d"e"}"`, list{quoted(op("a", "-", qtext("bcde")))}},
	{`"${a-''}"`, list{quoted(op("a", "-", qtext("")))}},
	{`"${a-''b}"`, list{quoted(op("a", "-", qtext("b")))}},
	{`"${a-\b\}}"`, list{quoted(op("a", "-", qtext("b}")))}},
	{`"${a-"b c"}"`, list{quoted(op("a", "-", qtext("b c")))}},
	{`"${a-"b'c"}"`, list{quoted(op("a", "-", qtext("b'c")))}},
	{`"${a-'"'}"`, list{quoted(op("a", "-", qtext(`"`)))}},
	{`"${a-$}"`, list{quoted(op("a", "-", qtext("$")))}},
	{`"${a-$b}"`, list{quoted(op("a", "-", quoted(param("b"))))}},
	{`"${a-"$b"c}"`, list{quoted(op("a", "-", quoted(param("b")), qtext("c")))}},
	{`"${a-$((1))}"`, list{quoted(op("a", "-", quoted(arith("1"))))}},
	{`"${a-${b-${c-d}e}f}"`, list{quoted(op("a", "-", quoted(op("b", "-", quoted(op("c", "-", qtext("d"))), qtext("e"))), qtext("f")))}},
	{`"${a-${#b}}"`, list{quoted(op("a", "-", quoted(op("b", "len"))))}},
	{`${a-"${b-c}"d}`, list{op("a", "-", quoted(op("b", "-", qtext("c"))), text("d"))}},
	{`${a-"${b-c'd'}"'e'}`, list{op("a", "-", quoted(op("b", "-", qtext("cd"))), qtext("e"))}},
	{`"${a-b}"${a-b}`, list{quoted(op("a", "-", qtext("b"))), op("a", "-", text("b"))}},
}

// wordCases returns all strings with their parts.
func wordCases() []wordCase {
	return slices.Concat(textCases, dollarCases, parenthesisCases, braceCases)
}

func TestParse(t *testing.T) {
	for _, c := range wordCases() {
		checkParts(t, c.s, c.want...)
	}
}

// TestParseInARow puts strings with a parameter between them into one.
func TestParseInARow(t *testing.T) {
	all := wordCases()
	for i, first := range all {
		for _, second := range []wordCase{all[(i*7+3)%len(all)], all[(i*31+5)%len(all)]} {
			want := slices.Concat(first.want, list{param("z")}, second.want)
			checkParts(t, first.s+"${z}"+second.s, want...)
		}
	}
}

// TestParseBytes parses each byte alone, behind a backslash, in quotes, and behind a `$`.
func TestParseBytes(t *testing.T) {
	for i := range 256 {
		c := string([]byte{byte(i)})
		checkParts(t, `\`+c, qtext(c))
		checkParts(t, `a\`+c+"b", text("a"), qtext(c), text("b"))
		switch c {
		case "\\", "'", `"`:
			checkRefused(t, c, api.ErrWord)
			checkRefused(t, "a"+c, api.ErrWord)
		default:
			checkParts(t, c, text(c))
			checkParts(t, "a"+c, text("a"+c))
		}
		if c != "'" {
			checkParts(t, "'"+c+"'", qtext(c))
		}
		if c != `"` && c != `\` {
			checkParts(t, `"`+c+`"`, qtext(c))
		}
		if strings.Contains("$`\"\\", c) {
			checkParts(t, `"\`+c+`"`, qtext(c))
			checkParts(t, `"\`+c+`a"`, qtext(c+"a"))
		} else {
			checkParts(t, `"\`+c+`"`, qtext(`\`+c))
		}
	}
}

const letters = "ABCDEFGHIJKLMNOPQRSTUVWXYZabcdefghijklmnopqrstuvwxyz_"

// TestNames has each byte at the beginning of a name, and in one.
func TestNames(t *testing.T) {
	for i := range 256 {
		c := string([]byte{byte(i)})
		letter := strings.Contains(letters, c)
		digit := strings.Contains("0123456789", c)
		special := strings.Contains("#?@*", c)
		switch {
		case letter || digit || special:
			checkParts(t, "$"+c, param(c))
			checkParts(t, `"$`+c+`"`, quoted(param(c)))
			checkParts(t, "${"+c+"}", param(c))
			checkParts(t, "${#"+c+"}", op(c, "len"))
			checkParts(t, "${"+c+"-}", op(c, "-"))
		case !strings.Contains("({'\"\\}", c):
			checkParts(t, "$"+c, text("$"+c))
			checkRefused(t, "${"+c+"}", api.ErrWord)
			checkRefused(t, "${"+c+"a}", api.ErrWord)
			checkRefused(t, "${"+c+"-a}", api.ErrWord)
		}
		if letter {
			checkParts(t, "${"+c+"=}", op(c, "="))
			checkParts(t, "${"+c+":=b}", op(c, ":=", text("b")))
		} else if digit || special {
			checkRefused(t, "${"+c+"=}", api.ErrWord)
			checkRefused(t, "${"+c+":=b}", api.ErrWord)
		}
		if letter || digit {
			checkParts(t, "$a"+c, param("a"+c))
			checkParts(t, "${a"+c+"b}", param("a"+c+"b"))
		} else if !strings.Contains("'\"\\", c) {
			checkParts(t, "$a"+c, param("a"), text(c))
			checkParts(t, "$1"+c, param("1"), text(c))
		}
		if digit {
			checkParts(t, "$1"+c, param("1"), text(c))
			checkParts(t, "${1"+c+"}", param("1"+c))
			checkParts(t, "${"+c+"0-}", op(c+"0", "-"))
		} else if letter {
			checkRefused(t, "${1"+c+"}", api.ErrWord)
			checkRefused(t, "${#"+c+"-}", api.ErrWord)
		}
	}
	checkParts(t, "$"+letters+"0123456789", param(letters+"0123456789"))
	checkParts(t, "${"+letters+"0123456789}", param(letters+"0123456789"))
}

// TestOps has each Op with each kind of name, with and without a Word.
func TestOps(t *testing.T) {
	for _, name := range []string{"a", "_b1", "0", "1", "23", "#", "?", "@", "*"} {
		for _, operator := range []string{":-", ":=", ":?", ":+", "%%", "##", "-", "=", "?", "+", "%", "#"} {
			if (operator == "=" || operator == ":=") && name != "a" && name != "_b1" {
				checkRefused(t, "${"+name+operator+"}", api.ErrWord)
				checkRefused(t, "${"+name+operator+"x}", api.ErrWord)
				continue
			}
			checkParts(t, "${"+name+operator+"x}", op(name, operator, text("x")))
			checkParts(t, "${"+name+operator+"'x'y}z", op(name, operator, qtext("x"), text("y")), text("z"))
			checkParts(t, `"${`+name+operator+`x}"`, quoted(op(name, operator, qtext("x"))))
			checkParts(t, "${"+name+operator+"-}", op(name, operator, text("-")))
			// `${##}` and `${#?}` are lengths.
			if name != "#" || operator != "#" && operator != "?" {
				checkParts(t, "${"+name+operator+"}", op(name, operator))
			}
		}
	}
}

// unclosed are strings with a unit that is not closed.
var unclosed = []string{
	`\`, `\\\`, `'a'\`, "'", "'a", "'a''", "'a''b", `'\`,
	`"`, `"a`, `"a""`, `"\"`, `"\`, `"\\\"`, `"a'`, `"$`, `"$a`, `"$(a)`, `"${a}`, `"$(a"`, `"${a"`, `"$((1))`,
	"$(", "$(a", "$((", "$((1)", "$((1", "$(()", "$(a(b)", `$(\)`, "$(')", `$(")`, "$(${)", "$($(a)", "$(}",
	"${", "${a", "${a-", "${a-b", "${#", "${#a", `${\}`, `${a-\}`, "${a-'}", `${a-"}`, "${a-${b}", "${a-$(b}", "${a-$((1}", "${)", "${}${",
}

// badNames are strings with braces in which there is no parameter.
var badNames = []string{
	"${}", "${-}", "${-a}", "${:-a}", "${=a}", "${%}", "${ a}", "${!a}", "${$}", "${$a}", "${(a)}", "${{}", "${''}", `${"a"}`, `${\a}`, "${é}", "${\xff}", "${\x00}", "${.}", "${}}",
	"${$(a)}", "${${a}}", "${$((1))}", "${'a'}", "${-a}-b}",
}

// badOps are strings with braces in which no Op, or none that may be there, follows the name.
var badOps = []string{
	"${a b}", "${a }", "${a.b}", "${a:}", "${a:b}", "${a: -b}", "${a:%b}", "${a:#b}", "${a::-b}", "${a!}", "${a$}", "${a$b}", "${a/b/c}", "${a,}", "${a@}", "${a*}", "${a[1]}", "${a'-'b}", `${a"-"b}`, `${a\-b}`, "${aé-b}", "${a\xff}", "${a\n-b}", "${a{}", "${a(}",
	"${1a}", "${1_}", "${12a-b}", "${1.}", "${@@}", "${*a}", "${**}", "${?a}", "${@1}", "${?@}",
	"${#a-b}", "${#a:-b}", "${#a#}", "${#a%b}", "${#a }", "${#1a}", "${#12-}", "${#a$}", "${#'a'}", "${# }", "${#@@}", "${#.}",
	"${1=a}", "${1:=a}", "${12=}", "${0=a}", "${#=a}", "${#:=a}", "${?=a}", "${@:=a}", "${*=a}", "${*:=}",
}

// badWords are strings with a Command in the Word of a parameter, or with an error in it.
var badWords = []string{
	"${a-$(b)}", "${a:=$(b)}", "${a#$(b)}", "${1+$(b)}", "${a-b$(c)d}", "${a-$()}", "${a-$( (b))}", "${a-$((b);c)}", `${a-"$(b)"}`, `${a-"b$(c)"d}`, `"${a-$(b)}"`, `"${a-"$(b)"}"`,
	"${a-${b-$(c)}}", "${a-${b-${c-$(d)}}}", `${a-"${b-"$(c)"}"}`, "${a-${b}$(c)}", "${a-$((1))$(c)}", "${a-$(b)$(c)}",
	"${a-${}}", "${a-${b=${1=c}}}", "${a-${b:}}", "${a-${1=}}", `"${a-${b c}}"`, `${a-"${}"}`, "${a-${b-${}}}",
}

func TestErrWord(t *testing.T) {
	all := slices.Concat(unclosed, badNames, badOps, badWords)
	for _, s := range all {
		checkRefused(t, s, api.ErrWord)
		// What stands before it has parts, which are not returned.
		checkRefused(t, `a$b'c'"d"${e-f}$((1))`+s, api.ErrWord)
		checkRefused(t, "$(a)"+s, api.ErrWord)
		checkRefused(t, "${z-"+s+"}", api.ErrWord)
		checkRefused(t, "${"+s+"}", api.ErrWord)
	}
	for _, s := range slices.Concat(badNames, badOps, badWords) {
		checkRefused(t, s+"a", api.ErrWord)
		checkRefused(t, `"`+s+`"`, api.ErrWord)
	}
	// In a Command and in an Arith nothing is parsed.
	for _, s := range slices.Concat(badNames, badOps, badWords) {
		checkParts(t, "$(a "+s+")", command("a "+s))
		checkParts(t, "$((1+"+s+"))", arith("1+"+s))
	}
}

// TestPrint has the texts that H2 names, for parts that have been parsed and for some that never are.
func TestPrint(t *testing.T) {
	for _, c := range []struct {
		parts list
		want  string
	}{
		{nil, ""},
		{list{}, ""},
		{list{text("")}, ""},
		{list{text("a b")}, "a b"},
		{list{text(`'"\$(a`)}, `'"\$(a`},
		{list{qtext("")}, "''"},
		{list{qtext("a b")}, "'a b'"},
		{list{qtext("'")}, `''\'''`},
		{list{qtext("it's a 'b'")}, `'it'\''s a '\''b'\'''`},
		{list{qtext("\"$a\\\n\x00\xffé")}, "'\"$a\\\n\x00\xffé'"},
		{list{text("a"), qtext("b"), text("c")}, "a'b'c"},
		{list{text("a"), text("b")}, "ab"},
		{list{qtext("a"), qtext("b")}, "'a''b'"},
		{list{command("a")}, "$(a)"},
		{list{command("")}, "$()"},
		{list{command("(a)")}, "$((a))"},
		{list{command("'a' \"b\"")}, "$('a' \"b\")"},
		{list{quoted(command("a"))}, `"$(a)"`},
		{list{arith("1 + 2")}, "$((1 + 2))"},
		{list{arith("")}, "$(())"},
		{list{quoted(arith("'1'"))}, `"$(('1'))"`},
		{list{param("a")}, "${a}"},
		{list{param("12")}, "${12}"},
		{list{param("#")}, "${#}"},
		{list{param("")}, "${}"},
		{list{quoted(param("@"))}, `"${@}"`},
		{list{op("a", "len")}, "${#a}"},
		{list{op("#", "len")}, "${##}"},
		{list{quoted(op("a", "len"))}, `"${#a}"`},
		{list{op("a", "len", text("b"))}, "${#a}"},
		{list{op("a", ":-")}, "${a:-}"},
		{list{op("a", ":-", text("b"))}, "${a:-b}"},
		{list{op("a", "%%", text("b"), qtext("c'd"))}, `${a%%b'c'\''d'}`},
		{list{op("a", "", text("b"))}, "${ab}"},
		{list{op("a b", "?!", text("}"))}, "${a b?!}}"},
		{list{op("a", "-", op("b", "=", op("c", "+"), text("d")), text("e")), text("f")}, "${a-${b=${c+}d}e}f"},
		{list{quoted(op("a", "-", quoted(op("b", "#", qtext("c")))))}, `"${a-"${b#'c'}"}"`},
		{list{quoted(op("a", "-", text("b"), param("c")))}, `"${a-b${c}}"`},
		{list{op("a", "-", command("b"), quoted(command("c")))}, `${a-$(b)"$(c)"}`},
		{list{op("a", "-", quoted(arith("1")), arith("2"))}, `${a-"$((1))"$((2))}`},
		{list{param("a"), quoted(param("b")), command("c"), arith("d"), qtext("e")}, `${a}"${b}"$(c)$((d))'e'`},
	} {
		if got := Print(c.parts); got != c.want {
			t.Errorf("H2: %s: %q, want %q", told(c.parts), got, c.want)
		}
	}
}

// TestPrintFields has parts with fields that mean nothing for their Kind, and Kinds that there are not.
func TestPrintFields(t *testing.T) {
	full := api.Part{Text: "t", Name: "n", Op: "o", Word: list{text("w")}}
	for kind, want := range map[int][2]string{
		api.Text:    {"t", "'t'"},
		api.Param:   {"${now}", `"${now}"`},
		api.Command: {"$(t)", `"$(t)"`},
		api.Arith:   {"$((t))", `"$((t))"`},
		-1:          {"", `""`},
		4:           {"", `""`},
		1 << 40:     {"", `""`},
	} {
		full.Kind = kind
		if got := [2]string{Print(list{full}), Print(list{quoted(full)})}; got != want {
			t.Errorf("H2: the Kind %d: %q, want %q", kind, got, want)
		}
		if got := Print(list{text("a"), op("b", "-", full, quoted(full)), text("c")}); got != "a${b-"+want[0]+want[1]+"}c" {
			t.Errorf("H2: the Kind %d in a Word: %q", kind, got)
		}
	}
}

// TestPrintDeepWords prints Words that are nested in more than any parsed one.
func TestPrintDeepWords(t *testing.T) {
	for _, depth := range []int{1, 30, 31, 1000, 3000000} {
		parts := list{text("x")}
		for range depth {
			parts = list{op("a", "-", parts...)}
		}
		want := strings.Repeat("${a-", depth) + "x" + strings.Repeat("}", depth)
		if got := Print(parts); got != want {
			t.Errorf("H2: %d Words: %.100q", depth, got)
		}
	}
}
