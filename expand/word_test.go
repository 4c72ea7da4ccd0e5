package expand_test

import (
	"testing"

	"scullion/api"
)

func TestDefaults(t *testing.T) {
	checkWords(t, "P3", []wordCase{
		{"${a-x}", "5", "5", list("5")},
		{"${a:-x}", "5", "5", list("5")},
		{`"${a-x}"`, "5", `\5`, list("5")},
		{"${e-x}", "", "", nil},
		{`"${e-x}"`, "", "", list("")},
		{"${e:-x}", "x", "x", list("x")},
		{"${none-x}", "x", "x", list("x")},
		{"${none:-x}", "x", "x", list("x")},
		{`"${none:-x}"`, "x", `\x`, list("x")},
		{"${s-x}", " 1  2 ", " 1  2 ", list("1", "2")},
		{`"${s:-x}"`, " 1  2 ", `\ \1\ \ \2\ `, list(" 1  2 ")},
		{"${star:-x}", "*", "*", list("a", "ab", "b", "d")},
		// The segments of the Word stay what they are.
		{"${none-x  y}", "x  y", "x  y", list("x  y")},
		{"${none-'x  y'}", "x  y", `\x\ \ \y`, list("x  y")},
		{"${none-$s}", " 1  2 ", " 1  2 ", list("1", "2")},
		{`${none-"$s"}`, " 1  2 ", `\ \1\ \ \2\ `, list(" 1  2 ")},
		{`"${none-$s}"`, " 1  2 ", `\ \1\ \ \2\ `, list(" 1  2 ")},
		{"${none-*}", "*", "*", list("a", "ab", "b", "d")},
		{"${none-'*'}", "*", `\*`, list("*")},
		{`"${none-*}"`, "*", `\*`, list("*")},
		{`x${none-$exp"z"w}y`, "xx yzwy", `xx y\zwy`, list("xx", "yzwy")},
		{`${none-"$@"}`, "one  3 4", `\o\n\e  \3\ \4`, list("one", "", "3 4")},
		{`"${none-$@}"`, "one  3 4", `\o\n\e  \3\ \4`, list("one", "", "3 4")},
		{`"${none-$*}"`, "one  3 4", `\o\n\e\ \ \3\ \4`, list("one  3 4")},
		{"${none-${none-${none-x}}}", "x", "x", list("x")},
		{"${none-${e:-${a-x}}}y", "5y", "5y", list("5y")},
		// The value of all arguments is one text, separated by spaces.
		{"${@-x}", "one  3 4", "one  3 4", list("one", "3", "4")},
		{`"${@-x}"`, "one  3 4", `\o\n\e\ \ \3\ \4`, list("one  3 4")},
		{`"${*:-x}"`, "one  3 4", `\o\n\e\ \ \3\ \4`, list("one  3 4")},
		{"${1-x}${2-x}${2:-x}${4-x}", "onexx", "onexx", list("onexx")},
		{"${0-x}${#-x}${?:-x}", "sh37", "sh37", list("sh37")},
	})
}

// TestEmptyWords has quoted parameters that become their Words, which have no segments.
func TestEmptyWords(t *testing.T) {
	checkWordsIn(t, "P3", withArgs(), nil, []wordCase{
		{"${none-}", "", "", nil},
		{`"${none-}"`, "", "", list("")},
		{`"${none:-}"`, "", "", list("")},
		{`"${e:-}"`, "", "", list("")},
		{"${a+}", "", "", nil},
		{`"${a+}"`, "", "", list("")},
		{`"${a:+}"`, "", "", list("")},
		{`"$@"`, "", "", nil},
		{`"${@}"`, "", "", nil},
		{`${none-"$@"}`, "", "", nil},
		{`"${none-$@}"`, "", "", list("")},
		{`"${@-$@}"`, "", "", list("")},
		{`"${a+$@}"`, "", "", list("")},
		{`"${none-$*}"`, "", "", list("")},
		{`${none-${none-"$@"}}`, "", "", nil},
		{`x${a+"$@"}y`, "xy", "xy", list("xy")},
	})
	// The parts of a Word may be quoted otherwise than the parameter, if nobody parsed it.
	empty := quoted(op("none", "-", op("@", "")))
	for _, c := range []struct {
		l []api.Part
		want
	}{
		{[]api.Part{empty}, want{fields: list(""), after: withArgs()}},
		{[]api.Part{op("none", "-", empty)}, want{fields: list(""), after: withArgs()}},
		{[]api.Part{quoted(op("none", "-", op("none", "-")))}, want{fields: list(""), after: withArgs()}},
		{[]api.Part{op("none", "-", quoted(op("@", "")))}, want{after: withArgs()}},
		{[]api.Part{quoted(op("none", "-", text("")))}, want{after: withArgs()}},
		{[]api.Part{quoted(op("none", "-", op("e", "")))}, want{after: withArgs()}},
		{[]api.Part{quoted(op("none", "-", text("x y"), op("s", "")))}, want{"x y 1  2 ", "x y 1  2 ", list("x y", "1", "2"), withArgs()}},
		{[]api.Part{text("x"), quoted(op("a", "+"))}, want{"x", "x", list("x"), withArgs()}},
	} {
		checkParts(t, "P3", c.l, withArgs(), nil, c.want)
	}
}

func TestAssigned(t *testing.T) {
	checkSets(t, "P3", sample(), []setCase{
		{"${none=x}", "x", "x", list("x"), "none", "x"},
		{"${none:=x}", "x", "x", list("x"), "none", "x"},
		{"${e:=x}", "x", "x", list("x"), "e", "x"},
		{`"${none=x}"`, "x", `\x`, list("x"), "none", "x"},
		{"${none=}", "", "", nil, "none", ""},
		{`"${none=}"`, "", "", list(""), "none", ""},
		{"${_=x}", "x", "x", list("x"), "_", "x"},
		{"${zz9=x}$zz9", "xx", "xx", list("xx"), "zz9", "x"},
		// The text is split, however the Word is quoted, unless the parameter is.
		{"${none=x  y}", "x  y", "x  y", list("x", "y"), "none", "x  y"},
		{"${none='x  y'}", "x  y", "x  y", list("x", "y"), "none", "x  y"},
		{`"${none=x  y}"`, "x  y", `\x\ \ \y`, list("x  y"), "none", "x  y"},
		{"${none='*'}", "*", "*", list("a", "ab", "b", "d"), "none", "*"},
		{`${none="$bs"}`, `\*`, `\\*`, list(`\*`), "none", `\*`},
		{`"${none=*}"`, "*", `\*`, list("*"), "none", "*"},
		{`${none=\*'\'$bs}`, `*\\*`, `*\\\\*`, list(`*\\*`), "none", `*\\*`},
		{"${none=$s}", " 1  2 ", " 1  2 ", list("1", "2"), "none", " 1  2 "},
		{"${none=$@}", "one  3 4", "one  3 4", list("one", "3", "4"), "none", "one  3 4"},
		{`${none="$@"}`, "one  3 4", "one  3 4", list("one", "3", "4"), "none", "one  3 4"},
		{`${none="$*"}`, "one  3 4", "one  3 4", list("one", "3", "4"), "none", "one  3 4"},
		{"${none=x${a}y}", "x5y", "x5y", list("x5y"), "none", "x5y"},
		{"${none=$none-}", "-", "-", list("-"), "none", "-"},
		// It is set once, if it is usable then.
		{"${none=x}${none=y}", "xx", "xx", list("xx"), "none", "x"},
		{"${none=}${none:=y}${none:=z}", "yy", "yy", list("yy"), "none", "y"},
		{"${none=}${none=y}", "", "", nil, "none", ""},
		{"${none=${none=x}y}", "xy", "xy", list("xy"), "none", "xy"},
		{"${none=$((none = 3))4}$none", "3434", "3434", list("3434"), "none", "34"},
		{"${none-${none=x}}${none-y}", "xx", "xx", list("xx"), "none", "x"},
		{"${a#${none=5}}$none", "5", "5", list("5"), "none", "5"},
	})
	checkWords(t, "P3", []wordCase{
		{"${a=x}", "5", "5", list("5")},
		{"${a:=x}", "5", "5", list("5")},
		{"${e=x}", "", "", nil},
		{`"${e=x}"`, "", "", list("")},
		{"${r=x}${r:=x}${re=x}", "readread", "readread", list("readread")},
		{`"${s=x}"`, " 1  2 ", `\ \1\ \ \2\ `, list(" 1  2 ")},
		{"${a-${none=x}}${none-y}", "5y", "5y", list("5y")},
		{"${none+${none=x}}${none-y}", "y", "y", list("y")},
	})
	checkErrors(t, "P3", []errorCase{
		{"${re:=x}", api.ErrRead},
		{"${re:=}", api.ErrRead},
		{`"${re:=x}"`, api.ErrRead},
		{"${none-${re:=x}}", api.ErrRead},
		{"${none=x}${re:=x}", api.ErrRead},
		{"${none=${re:=x}}", api.ErrRead},
	})
	// What is exported stays so.
	s := api.Shell{Vars: []api.Var{{Name: "x", Exported: true}}}
	after := api.Shell{Vars: []api.Var{{Name: "x", Value: "1", Exported: true}}}
	checkParts(t, "P3", parts(t, "${x:=1}"), s, nil, want{"1", "1", list("1"), after})
	// Several variables are set one by one.
	after = withVar(withVar(withVar(sample(), "x", "123"), "y", "23"), "z", "3")
	checkParts(t, "P4", parts(t, "${x=1${y=2${z=3}}}$x$y$z"), sample(), nil, want{"123123233", "123123233", list("123123233"), after})
	after = withVar(withVar(sample(), "x", "a"), "n", "6")
	checkParts(t, "P4", parts(t, "${x:=a}$((n = a + 1))$x$n"), sample(), nil, want{"a6a6", "a6a6", list("a6a6"), after})
}

func TestErrors(t *testing.T) {
	checkErrors(t, "P3", []errorCase{
		{"${none?}", api.ErrUnset},
		{"${none:?}", api.ErrUnset},
		{"${none?x}", api.ErrUnset},
		{"${e:?x}", api.ErrUnset},
		{"${2:?}", api.ErrUnset},
		{"${4?}", api.ErrUnset},
		{"${00?}", api.ErrUnset},
		{`"${none?}"`, api.ErrUnset},
		{"x$a${none?}y", api.ErrUnset},
		{"${none-${none?}}", api.ErrUnset},
		{"${none=${none?}}", api.ErrUnset},
		{"${a+${none?}}", api.ErrUnset},
		{"${a#${none?}}", api.ErrUnset},
		{"${none=x}${n=y}${re:?}", api.ErrUnset},
	})
	checkWords(t, "P3", []wordCase{
		{"${a?}", "5", "5", list("5")},
		{"${a:?x}", "5", "5", list("5")},
		{`"${a?x}"`, "5", `\5`, list("5")},
		{"${e?}", "", "", nil},
		{`"${e?}"`, "", "", list("")},
		{"${2?}", "", "", nil},
		{"${s?}", " 1  2 ", " 1  2 ", list("1", "2")},
		{"${@?}", "one  3 4", "one  3 4", list("one", "3", "4")},
		{`"${@?}"`, "one  3 4", `\o\n\e\ \ \3\ \4`, list("one  3 4")},
		{"${a?${none?}}", "5", "5", list("5")},
		{"${#?}${??}${0?}", "17sh", "17sh", list("17sh")},
	})
	for _, name := range list("@", "*") {
		checkRefused(t, "P3", parts(t, "${"+name+"?}"), withArgs(), api.ErrUnset)
		checkRefused(t, "P3", parts(t, "${"+name+":?}"), withArgs(""), api.ErrUnset)
		checkTexts(t, "P3", withArgs(""), []textCase{{"${" + name + "?}", ""}})
		checkTexts(t, "P3", withArgs("", ""), []textCase{{"${" + name + ":?}", " "}})
	}
}

func TestAlternatives(t *testing.T) {
	checkWords(t, "P3", []wordCase{
		{"${a+x}", "x", "x", list("x")},
		{"${a:+x}", "x", "x", list("x")},
		{`"${a+x}"`, "x", `\x`, list("x")},
		{"${e+x}", "x", "x", list("x")},
		{"${e:+x}", "", "", nil},
		{`"${e:+x}"`, "", "", list("")},
		{"${none+x}", "", "", nil},
		{"${none:+x}", "", "", nil},
		{`"${none+x}"`, "", "", list("")},
		{"y${none+x}z", "yz", "yz", list("yz")},
		{"${a+x  y}", "x  y", "x  y", list("x  y")},
		{"${a+$s}", " 1  2 ", " 1  2 ", list("1", "2")},
		{`${a+"$s"}`, " 1  2 ", `\ \1\ \ \2\ `, list(" 1  2 ")},
		{"${a+*}", "*", "*", list("a", "ab", "b", "d")},
		{`"${a+*}"`, "*", `\*`, list("*")},
		{`${@+"$@"}`, "one  3 4", `\o\n\e  \3\ \4`, list("one", "", "3 4")},
		{`"${@+$@}"`, "one  3 4", `\o\n\e  \3\ \4`, list("one", "", "3 4")},
		{"${a+${e+${e:+x}y}z}", "yz", "yz", list("yz")},
		{"${2+x}${2:+y}${4+z}", "x", "x", list("x")},
	})
	checkWordsIn(t, "P3", withArgs(), nil, []wordCase{{`${@+"$@"}`, "", "", nil}, {`"${@+$@}"`, "", "", list("")}})
	checkWordsIn(t, "P3", withArgs(""), nil, []wordCase{{`${@+"$@"}`, "", "", list("")}, {`${@:+"$@"}`, "", "", nil}})
}

func TestRemoved(t *testing.T) {
	checkWords(t, "P3", []wordCase{
		{"${dots#*.}", "b.c", "b.c", list("b.c")},
		{"${dots##*.}", "c", "c", list("c")},
		{"${dots%.*}", "a.b", "a.b", list("a.b")},
		{"${dots%%.*}", "a", "a", list("a")},
		{`"${dots%%.b.c}"`, "a", `\a`, list("a")},
		{"${dots#a}${dots%c}", ".b.ca.b.", ".b.ca.b.", list(".b.ca.b.")},
		{"${dots#}${dots##}${dots%}${dots%%}", "a.b.ca.b.ca.b.ca.b.c", "a.b.ca.b.ca.b.ca.b.c", list("a.b.ca.b.ca.b.ca.b.c")},
		{"${dots#x}${dots%x}", "a.b.ca.b.c", "a.b.ca.b.c", list("a.b.ca.b.c")},
		{"${dots##*}", "", "", nil},
		{`"${dots%%a.b.c}"`, "", "", list("")},
		{`"${dots%%.*}"`, "a.b.c", `\a\.\b\.\c`, list("a.b.c")},
		{"${dots#*}", "a.b.c", "a.b.c", list("a.b.c")},
		{"${dots#[a-c]?}", "b.c", "b.c", list("b.c")},
		// What is quoted in the Word is no pattern, as all of the Word of a quoted parameter is.
		{"${dots#'*.'}", "a.b.c", "a.b.c", list("a.b.c")},
		{`${dots#\*.}`, "a.b.c", "a.b.c", list("a.b.c")},
		{`"${dots#*.}"`, "a.b.c", `\a\.\b\.\c`, list("a.b.c")},
		{`"${dots#a.}"`, "b.c", `\b\.\c`, list("b.c")},
		{`"${star#*}"`, "", "", list("")},
		{`${star#\*}`, "", "", nil},
		{`${star#"$star"}`, "", "", nil},
		{"${dots##$star}", "", "", nil},
		{`${dots##"$star"}`, "a.b.c", "a.b.c", list("a.b.c")},
		{"${dots##${none-*.}}", "c", "c", list("c")},
		{"${dots#$((0)) }", "a.b.c", "a.b.c", list("a.b.c")},
		{"${a%$((2 + 3))}", "", "", nil},
		// A backslash that was not quoted in the script is an ordinary byte.
		{"${bs#$bs}", "*", "*", list("a", "ab", "b", "d")},
		{"${bs##$bs}", "", "", nil},
		{`${bs#'\'}`, "*", "*", list("a", "ab", "b", "d")},
		{`"${bs#\\}"`, "*", `\*`, list("*")},
		{"${star#$bs}", "*", "*", list("a", "ab", "b", "d")},
		// The value of all arguments is one text.
		{"${@#o}", "ne  3 4", "ne  3 4", list("ne", "3", "4")},
		{`"${@#o}"`, "ne  3 4", `\n\e\ \ \3\ \4`, list("ne  3 4")},
		{`"${*%4}"`, "one  3 ", `\o\n\e\ \ \3\ `, list("one  3 ")},
		{"${*##* }", "4", "4", list("4")},
		{"${dots#${none-$@}}", "a.b.c", "a.b.c", list("a.b.c")},
		{"${@#$@}", "", "", nil},
		{`"${@#$@}"`, "", "", list("")},
		{"${@#$1 }", " 3 4", " 3 4", list("3", "4")},
		{"${s# }", "1  2 ", "1  2 ", list("1", "2")},
		{`"${s% }"`, " 1  2", `\ \1\ \ \2`, list(" 1  2")},
		{"${none#x}", "", "", nil},
		{`"${none#x}"`, "", "", list("")},
		{"${##3}", "", "", nil},
		{"${?%7}", "", "", nil},
		{"${0#s}", "h", "h", list("h")},
		{"${utf#?}", "\xa9", "\xa9", list("\xa9")},
	})
	// The value is the one that the parameter has before its Word.
	checkSets(t, "P3", sample(), []setCase{
		{"${a#$((a = 7))}$a", "57", "57", list("57"), "a", "7"},
		{"${e%${e:=x}}$e", "x", "x", list("x"), "e", "x"},
	})
	// The longest match is the one of the whole Word, in which no Break stands for itself.
	checkWordsIn(t, "P3", withArgs("a", "*"), nil, []wordCase{{"${none-${1#$@}}", "a", "a", list("a")}, {"${@%%$@}", "", "", nil}})
}
