package expand_test

import (
	"fmt"
	"slices"
	"testing"

	"scullion/api"
	"scullion/expand"
	"scullion/kern"
	"scullion/store"
	"scullion/word"
)

func list(l ...string) []string { return l }

// set returns a variable that is neither exported nor read-only.
func set(name, value string) api.Var { return api.Var{Name: name, Value: value} }

// sample returns a shell with variables of all sorts and three arguments, one of which is empty.
func sample() api.Shell {
	return api.Shell{
		Vars: []api.Var{
			set("a", "5"),
			set("bad", "1x"),
			set("bs", `\*`),
			set("dots", "a.b.c"),
			set("e", ""),
			{Name: "exp", Value: "x y", Exported: true},
			set("neg", "-7"),
			{Name: "r", Value: "read", ReadOnly: true},
			{Name: "re", ReadOnly: true},
			set("s", " 1  2 "),
			set("star", "*"),
			set("utf", "é"),
		},
		Args:   list("one", "", "3 4"),
		Status: 7,
	}
}

// withVar returns a shell in which a variable has another value, or is added.
func withVar(s api.Shell, name, value string) api.Shell {
	l := slices.Clone(s.Vars)
	at := 0
	for at < len(l) && l[at].Name < name {
		at++
	}
	if at < len(l) && l[at].Name == name {
		l[at].Value = value
	} else {
		l = slices.Insert(l, at, set(name, value))
	}
	s.Vars = l
	return s
}

// withArgs returns the sample with other arguments.
func withArgs(args ...string) api.Shell {
	s := sample()
	s.Args = args
	return s
}

func sameShell(a, b api.Shell) bool {
	return slices.Equal(a.Vars, b.Vars) && slices.Equal(a.Args, b.Args) && a.Status == b.Status
}

// shown returns a text that tells what a shell has.
func shown(s api.Shell) string { return fmt.Sprintf("%+v", s) }

// process returns a process in a tree with a few files.
func process() *kern.Proc {
	s := store.New()
	for _, name := range list("/a", "/b", "/ab", "/.c", "/d/x", "/d/y") {
		s.Put(name, api.Entry{Kind: api.File, Mode: 6})
	}
	s.Put("/d", api.Entry{Kind: api.Dir, Mode: 7})
	return kern.New(s, "", 0)
}

// parts returns the parts of a word.
func parts(t *testing.T, s string) []api.Part {
	t.Helper()
	l, f := word.Parse(s)
	if f != api.OK {
		t.Fatalf("%q is no word: %d", s, f)
	}
	return l
}

// want is what a word is expanded to.
type want struct {
	text    string
	pattern string
	fields  []string
	after   api.Shell
}

// checkParts fails unless parts are expanded as wanted.
func checkParts(t *testing.T, promise string, l []api.Part, s api.Shell, outs []string, w want) {
	t.Helper()
	told := word.Print(l)
	text, after, f := expand.Text(l, s, outs, false)
	if text != w.text || f != api.OK || !sameShell(after, w.after) {
		t.Errorf("%s: Text of %.200s: %.200q, %.500s and %d, not %.200q and %.500s", promise, told, text, shown(after), f, w.text, shown(w.after))
	}
	text, after, f = expand.Text(l, s, outs, true)
	if text != w.pattern || f != api.OK || !sameShell(after, w.after) {
		t.Errorf("%s: Text of %.200s as a pattern: %.200q, %.500s and %d, not %.200q and %.500s", promise, told, text, shown(after), f, w.pattern, shown(w.after))
	}
	found, after, f := expand.Fields(process(), l, s, outs)
	if !slices.Equal(found, w.fields) || f != api.OK || !sameShell(after, w.after) {
		t.Errorf("%s: Fields of %.200s: %.200q, %.500s and %d, not %.200q and %.500s", promise, told, found, shown(after), f, w.fields, shown(w.after))
	}
}

// checkRefused fails unless parts have an error, and nothing beside it but the shell as it was.
func checkRefused(t *testing.T, promise string, l []api.Part, s api.Shell, want api.Errno) {
	t.Helper()
	told := word.Print(l)
	for _, pattern := range []bool{false, true} {
		text, after, f := expand.Text(l, s, list("1", "2"), pattern)
		if text != "" || f != want || !sameShell(after, s) {
			t.Errorf("%s: Text of %.200s: %.200q, %.500s and %d, not %d", promise, told, text, shown(after), f, want)
		}
	}
	found, after, f := expand.Fields(process(), l, s, list("1", "2"))
	if len(found) != 0 || f != want || !sameShell(after, s) {
		t.Errorf("%s: Fields of %.200s: %.200q, %.500s and %d, not %d", promise, told, found, shown(after), f, want)
	}
}

// wordCase is a word that leaves the shell as it is, and what it is expanded to.
type wordCase struct {
	word, text, pattern string
	fields              []string
}

func checkWordsIn(t *testing.T, promise string, s api.Shell, outs []string, cases []wordCase) {
	t.Helper()
	for _, c := range cases {
		checkParts(t, promise, parts(t, c.word), s, outs, want{c.text, c.pattern, c.fields, s})
	}
}

func checkWords(t *testing.T, promise string, cases []wordCase) {
	t.Helper()
	checkWordsIn(t, promise, sample(), nil, cases)
}

// textCase is a word that leaves the shell as it is, and its text.
type textCase struct{ word, text string }

func checkTexts(t *testing.T, promise string, s api.Shell, cases []textCase) {
	t.Helper()
	for _, c := range cases {
		text, after, f := expand.Text(parts(t, c.word), s, nil, false)
		if text != c.text || f != api.OK || !sameShell(after, s) {
			t.Errorf("%s: Text of %.200s: %.200q, %.500s and %d, not %.200q", promise, c.word, text, shown(after), f, c.text)
		}
	}
}

// errorCase is a word, and its error.
type errorCase struct {
	word string
	want api.Errno
}

func checkErrors(t *testing.T, promise string, cases []errorCase) {
	t.Helper()
	for _, c := range cases {
		checkRefused(t, promise, parts(t, c.word), sample(), c.want)
	}
}

// setCase is a word that sets a variable of the sample, and what it is expanded to.
type setCase struct {
	word, text, pattern string
	fields              []string
	name, value         string
}

func checkSets(t *testing.T, promise string, s api.Shell, cases []setCase) {
	t.Helper()
	for _, c := range cases {
		checkParts(t, promise, parts(t, c.word), s, nil, want{c.text, c.pattern, c.fields, withVar(s, c.name, c.value)})
	}
}

func TestExample(t *testing.T) {
	s := api.Shell{Vars: []api.Var{set("x", "1 2")}}
	found, after, f := expand.Fields(process(), parts(t, `a$x"$x"`), s, nil)
	if !slices.Equal(found, list("a1", "21 2")) || f != api.OK || !sameShell(after, s) {
		t.Errorf("P6: %q, %v and %d", found, after, f)
	}
}

func TestCommands(t *testing.T) {
	for s, want := range map[string][]string{
		"":                               nil,
		"a":                              nil,
		"'$(a)'":                         nil,
		`\$\(a)`:                         nil,
		"$a${b-c}$((1))":                 nil,
		"$(a)":                           list("a"),
		"$()":                            list(""),
		`x$(b)y"$(a) $(b)"'z'$( c "d" )`: list("b", "a", "b", ` c "d" `),
		"$(a)$((1))$(echo $(b))":         list("a", "echo $(b)"),
		`"$(a "$(b)")"`:                  list(`a "$(b)"`),
	} {
		if got := expand.Commands(parts(t, s)); !slices.Equal(got, want) {
			t.Errorf("P1: the commands of %s: %q", s, got)
		}
	}
	inWord := []api.Part{command("a"), op("x", "-", command("b"), op("y", "+", command("c"))), {Kind: api.Command, Text: "d", Word: []api.Part{command("e")}}, {Kind: 4, Text: "f"}, {Kind: -1, Text: "g"}}
	if got := expand.Commands(inWord); !slices.Equal(got, list("a", "d")) {
		t.Errorf("P1: %q", got)
	}
}

// TestTexts has words of texts alone.
func TestTexts(t *testing.T) {
	checkWords(t, "P4", []wordCase{
		{"", "", "", nil},
		{"x", "x", "x", list("x")},
		{"''", "", "", list("")},
		{`""`, "", "", list("")},
		{`''""`, "", "", list("")},
		{"'x y'", "x y", `\x\ \y`, list("x y")},
		{`x'y'z`, "xyz", `x\yz`, list("xyz")},
		{`\\`, `\`, `\\`, list(`\`)},
		{`'\'`, `\`, `\\`, list(`\`)},
		{"*", "*", "*", list("a", "ab", "b", "d")},
		{"a*", "a*", "a*", list("a", "ab")},
		{"'*'", "*", `\*`, list("*")},
		{`\*`, "*", `\*`, list("*")},
		{`"a"*`, "a*", `\a*`, list("a", "ab")},
		{`a"*"`, "a*", `a\*`, list("a*")},
		{"[ab]", "[ab]", "[ab]", list("a", "b")},
		{"'['ab]", "[ab]", `\[ab]`, list("[ab]")},
		{"d/*", "d/*", "d/*", list("d/x", "d/y")},
		{".*", ".*", ".*", list(".c")},
		{"x*", "x*", "x*", list("x*")},
		{`x'\'*`, `x\*`, `x\\*`, list(`x\*`)},
		{"$", "$", "$", list("$")},
		{"a$", "a$", "a$", list("a$")},
	})
	// No word has these, since a backslash, a blank and the like are quoted there.
	for _, c := range []struct {
		l []api.Part
		want
	}{
		{[]api.Part{text(`\*`)}, want{`\*`, `\\*`, list(`\*`), sample()}},
		{[]api.Part{text("x y")}, want{"x y", "x y", list("x y"), sample()}},
		{[]api.Part{text("")}, want{"", "", nil, sample()}},
		{[]api.Part{text(""), text("")}, want{"", "", nil, sample()}},
		{[]api.Part{text("x"), text("y"), quoted(text("")), text("z")}, want{"xyz", "xyz", list("xyz"), sample()}},
		{[]api.Part{{Text: "x", Name: "a", Op: "len", Word: []api.Part{command("x")}}}, want{"x", "x", list("x"), sample()}},
	} {
		checkParts(t, "P4", c.l, sample(), list("out"), c.want)
	}
}

// TestOtherKinds has parts that nothing is said of, which have no segments.
func TestOtherKinds(t *testing.T) {
	for _, kind := range []int{4, -1, 1000} {
		for _, quoted := range []bool{false, true} {
			other := api.Part{Kind: kind, Quoted: quoted, Text: "x", Name: "a", Op: "=", Word: []api.Part{text("y")}}
			checkParts(t, "P4", []api.Part{other}, sample(), nil, want{after: sample()})
			checkParts(t, "P4", []api.Part{text("1"), other, command("c"), other, text("2")}, sample(), list("0"), want{"102", "102", list("102"), sample()})
			checkParts(t, "P3", []api.Part{op("x", "-", other)}, sample(), nil, want{after: sample()})
		}
	}
	for _, name := range list("", "a", "none") {
		for _, operator := range list("x", ":", "::-", "-:", "%%%", "###", "len ", "lenlen") {
			// No Op of a word is one of these, so that the calls must only end.
			l := []api.Part{op(name, operator, text("y"))}
			expand.Text(l, sample(), nil, false)
			expand.Fields(process(), l, sample(), nil)
		}
	}
}

func TestOutputs(t *testing.T) {
	s := sample()
	for _, c := range []struct {
		word string
		outs []string
		want
	}{
		{"$(c)", nil, want{"", "", nil, s}},
		{`"$(c)"`, nil, want{"", "", list(""), s}},
		{"$(c)", list("x"), want{"x", "x", list("x"), s}},
		{"$(c)", list("x", "y"), want{"x", "x", list("x"), s}},
		{"$(c)$(c)", list("x"), want{"x", "x", list("x"), s}},
		{"$(c)$(c)", list("x", "y"), want{"xy", "xy", list("xy"), s}},
		{`$(c)-"$(d)"-$(c)`, list("1 2", "3 4", "5 6"), want{"1 2-3 4-5 6", `1 2-\3\ \4-5 6`, list("1", "2-3 4-5", "6"), s}},
		{"$(c)", list("x\n"), want{"x", "x", list("x"), s}},
		{"$(c)", list("x\n\n\n"), want{"x", "x", list("x"), s}},
		{`"$(c)"`, list("x\n\n"), want{"x", `\x`, list("x"), s}},
		{`"$(c)"`, list("\n\n"), want{"", "", list(""), s}},
		{"$(c)", list("\n\n"), want{"", "", nil, s}},
		{`"$(c)"`, list("\nx \n y\n"), want{"\nx \n y", "\\\n\\x\\ \\\n\\ \\y", list("\nx \n y"), s}},
		{"$(c)", list("\nx \n y\n"), want{"\nx \n y", "\nx \n y", list("x", "y"), s}},
		{`"$(c)"`, list("x \n"), want{"x ", `\x\ `, list("x "), s}},
		{`"$(c)"`, list("x\r\n"), want{"x\r", "\\x\\\r", list("x\r"), s}},
		{`"$(c)"`, list("x\n\t"), want{"x\n\t", "\\x\\\n\\\t", list("x\n\t"), s}},
		{"$(c)", list("*"), want{"*", "*", list("a", "ab", "b", "d"), s}},
		{`"$(c)"`, list("*"), want{"*", `\*`, list("*"), s}},
		{"$(c)", list(`\*`), want{`\*`, `\\*`, list(`\*`), s}},
		{"$(c)", list("$a $(d) 'x'"), want{"$a $(d) 'x'", "$a $(d) 'x'", list("$a", "$(d)", "'x'"), s}},
		{"$a$(c)${none-x}$(d)", list("1", "2"), want{"51x2", "51x2", list("51x2"), s}},
		{`x$(c)$((1))"$(d)"`, list("1\n"), want{"x11", "x11", list("x11"), s}},
	} {
		checkParts(t, "P4", parts(t, c.word), s, c.outs, c.want)
	}
}

// TestCommandsInWords has commands where no parsed word has them, which take no output.
func TestCommandsInWords(t *testing.T) {
	s := sample()
	for _, c := range []struct {
		l []api.Part
		want
	}{
		{[]api.Part{op("none", "-", command("c")), command("d")}, want{"1", "1", list("1"), s}},
		{[]api.Part{op("none", "-", quoted(command("c"))), command("d")}, want{"1", "1", list("1"), s}},
		{[]api.Part{op("none", "-", command("c"))}, want{"", "", nil, s}},
		{[]api.Part{op("none", "-", quoted(command("c")))}, want{"", "", list(""), s}},
		{[]api.Part{command("b"), op("a", "+", text("x"), command("c"), text("y")), command("d")}, want{"1xy2", "1xy2", list("1xy2"), s}},
		{[]api.Part{op("a", "#", command("c"), text("5"), command("c")), command("d")}, want{"1", "1", list("1"), s}},
		{[]api.Part{op("none", ":-", op("none", "-", command("c")), command("d")), command("e"), op("e", ":-", command("f")), command("g")}, want{"12", "12", list("12"), s}},
		{[]api.Part{op("none", "=", command("c"), text("x")), command("d")}, want{"x1", "x1", list("x1"), withVar(s, "none", "x")}},
	} {
		checkParts(t, "P4", c.l, s, list("1\n", "2"), c.want)
	}
}

func TestArith(t *testing.T) {
	checkWords(t, "P4", []wordCase{
		{"$(())", "0", "0", list("0")},
		{"$((1+2*3))", "7", "7", list("7")},
		{`"$((1+2*3))"`, "7", `\7`, list("7")},
		{"$((a - 7))", "-2", "-2", list("-2")},
		{`x"$((-12))"y`, "x-12y", `x\-\1\2y`, list("x-12y")},
		{"$((neg))$((none))$((e))", "-700", "-700", list("-700")},
		{"$((1 << 63))", "-9223372036854775808", "-9223372036854775808", list("-9223372036854775808")},
		{"$((0x7fffffffffffffff))", "9223372036854775807", "9223372036854775807", list("9223372036854775807")},
		{"$((0 && (a = 1)))", "0", "0", list("0")},
	})
	checkSets(t, "P4", sample(), []setCase{
		{"$((a = 3))$a", "33", "33", list("33"), "a", "3"},
		{"$a$((a = 3))$a", "533", "533", list("533"), "a", "3"},
		{`"$((a += 1))$a"$((a))`, "666", `\6\66`, list("666"), "a", "6"},
		{"$((n = -4))${n}", "-4-4", "-4-4", list("-4-4"), "n", "-4"},
		{"$((n = n + 1))$((n = n + 1))", "12", "12", list("12"), "n", "2"},
		{"${none-$((n = 2))}$n", "22", "22", list("22"), "n", "2"},
		{"${a#$((n = 5))}$n", "5", "5", list("5"), "n", "5"},
	})
	checkErrors(t, "P4", []errorCase{
		{"$((1/0))", api.ErrZero},
		{"$((1%(a-5)))", api.ErrZero},
		{"$((1+))", api.ErrArith},
		{"$((bad))", api.ErrArith},
		{"$(($a))", api.ErrArith},
		{`"$((1 2))"`, api.ErrArith},
		{"$((r = 1))", api.ErrRead},
		{"$((re = 1))", api.ErrRead},
		{"$((------------------------------1))", api.ErrLong},
		{"x$((a = 1))'y'$((r = 1))", api.ErrRead},
		{"$((n = 1))$((1/0))", api.ErrZero},
	})
}

// TestFirstError has several errors in one word.
func TestFirstError(t *testing.T) {
	checkErrors(t, "P4", []errorCase{
		{"$((1/0))${none?}", api.ErrZero},
		{"${none?}$((1/0))", api.ErrUnset},
		{"${re:=x}${none?}$((1/0))", api.ErrRead},
		{"$((1+))${re:=x}", api.ErrArith},
		{`"x${none?}"$((1/0))`, api.ErrUnset},
		{`"$((1/0))${none?}"`, api.ErrZero},
		{"${none-$((1/0))${none?}}", api.ErrZero},
		{"${none-${none?}$((1/0))}", api.ErrUnset},
		{"${none-${none-$((1+))}${re:=}}$((1/0))", api.ErrArith},
		{"${none-x}${re:=x}${none-$((1/0))}", api.ErrRead},
		// A Word is expanded before the variable is set, or something removed.
		{"${re:=$((1/0))}", api.ErrZero},
		{"${re:=${none?}}", api.ErrUnset},
		{"${re:=${re:=x}$((1/0))}", api.ErrRead},
		{"${a%$((1/0))}${none?}", api.ErrZero},
		// Some Words are needed, others not.
		{"${a+$((1/0))}", api.ErrZero},
		{"${e:-$((1/0))}", api.ErrZero},
		{"${none?$((1/0))}", api.ErrUnset},
		{"${e:?$((1/0))}", api.ErrUnset},
		{"${none=x}${none2:=y}$((n = 1))${n?}${r+$((1/0))}", api.ErrZero},
	})
	checkWords(t, "P3", []wordCase{
		{"${a-$((1/0))}", "5", "5", list("5")},
		{"${a:-${none?}}", "5", "5", list("5")},
		{"${a=$((1/0))}", "5", "5", list("5")},
		{"${r:=${none?}}", "read", "read", list("read")},
		{"${a?$((1/0))}", "5", "5", list("5")},
		{"${a:?$((a = 9))}", "5", "5", list("5")},
		{"${none+$((1/0))}", "", "", nil},
		{"${e:+${none?}}", "", "", nil},
	})
}

func text(s string) api.Part { return api.Part{Text: s} }

func command(s string) api.Part { return api.Part{Kind: api.Command, Text: s} }

func arithmetic(s string) api.Part { return api.Part{Kind: api.Arith, Text: s} }

func op(name, operator string, l ...api.Part) api.Part {
	return api.Part{Kind: api.Param, Name: name, Op: operator, Word: l}
}

// quoted returns a part, but not its Word, quoted.
func quoted(part api.Part) api.Part {
	part.Quoted = true
	return part
}
