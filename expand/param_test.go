package expand_test

import (
	"strings"
	"testing"

	"scullion/api"
	"scullion/expand"
)

func TestValues(t *testing.T) {
	checkTexts(t, "P2", sample(), []textCase{
		{"$#", "3"}, {"$?", "7"}, {"$0", "sh"}, {"${#}", "3"}, {"${?}", "7"}, {"${0}", "sh"},
		{"$1", "one"}, {"$2", ""}, {"$3", "3 4"}, {"$4", ""}, {"$9", ""},
		{"${1}", "one"}, {"${3}", "3 4"}, {"${4}", ""}, {"${10}", ""}, {"$10", "one0"},
		{"${01}", "one"}, {"${0003}", "3 4"}, {"${04}", ""}, {"${00}", ""}, {"${000}", ""},
		{"${2147483649}", ""}, {"${4294967297}", ""}, {"${9223372036854775807}", ""}, {"${9223372036854775808}", ""}, {"${18446744073709551617}", ""}, {"${55340232221128654849}", ""},
		{"${" + strings.Repeat("9", 1000) + "}", ""}, {"${" + strings.Repeat("0", 1000) + "1}", "one"},
		{"$@", "one  3 4"}, {"$*", "one  3 4"}, {`"$@"`, "one  3 4"}, {`"$*"`, "one  3 4"},
		{"$a", "5"}, {"$e", ""}, {"$exp", "x y"}, {"$r", "read"}, {"$re", ""}, {"$none", ""}, {"$A", ""}, {"$star", "*"}, {"$utf", "é"}, {"$aa", ""}, {"${a}a", "5a"},
	})
	s := sample()
	s.Status = -12
	checkTexts(t, "P2", s, []textCase{{"$?", "-12"}, {"${#?}", "3"}, {"${?#-}", "12"}})
	s.Status = 0
	checkTexts(t, "P2", s, []textCase{{"$?", "0"}, {"${?:-x}", "0"}, {"${?:+x}", "x"}})
	s.Status = -1 << 63
	checkTexts(t, "P2", s, []textCase{{"$?", "-9223372036854775808"}})
	checkTexts(t, "P2", withArgs(), []textCase{{"$#", "0"}, {"$@", ""}, {"$*", ""}, {`"$@"`, ""}, {`"$*"`, ""}, {"$1", ""}, {"$0", "sh"}})
	checkTexts(t, "P2", withArgs("1", "2", "3", "4", "5", "6", "7", "8", "9", "ten", "11"), []textCase{{"$#", "11"}, {"$9", "9"}, {"${10}", "ten"}, {"${010}", "ten"}, {"${11}", "11"}, {"$11", "11"}, {"$10", "10"}, {"${12}", ""}})
}

// TestSet asks which parameters are set, and which of them have a value that is not empty.
func TestSet(t *testing.T) {
	for _, c := range []struct {
		s          api.Shell
		set, empty string // the names of those that are set, and of those of them whose value is empty
		not        string
	}{
		{sample(), "# ? 0 1 2 3 01 @ * a e exp r re utf", "2 e re", "4 00 000 9 10 none A aa ab 9223372036854775808"},
		{withArgs(), "# ? 0", "", "1 @ * 00"},
		{withArgs(""), "# ? 0 1 @ *", "1 @ *", "2 00"},
		{withArgs("", ""), "# ? 0 1 2 @ *", "1 2", "3 00"},
		{api.Shell{}, "# ? 0", "", "1 @ * a IFS"},
	} {
		for _, name := range strings.Fields(c.set) {
			usable := "yes"
			for _, empty := range strings.Fields(c.empty) {
				if name == empty {
					usable = ""
				}
			}
			checkTexts(t, "P2", c.s, []textCase{{"${" + name + "+yes}", "yes"}, {"${" + name + ":+yes}", usable}})
		}
		for _, name := range strings.Fields(c.not) {
			checkTexts(t, "P2", c.s, []textCase{{"${" + name + "+yes}", ""}, {"${" + name + ":+yes}", ""}, {"${" + name + "}", ""}, {"${" + name + "-no}", "no"}, {"${" + name + ":-no}", "no"}})
		}
	}
}

// TestOddNames has parameters that no word has. They are no variables, so they are not set.
func TestOddNames(t *testing.T) {
	for _, name := range []string{"", "+1", "-1", "1_", "_1", "1a", "0x1", "1 ", " 1", "1e0", "a ", "@@", "##", "0#", "é", "a\x00", "\xff", "1.0", "٣", "sh"} {
		checkParts(t, "P2", []api.Part{op(name, "")}, sample(), nil, want{after: sample()})
		checkParts(t, "P2", []api.Part{op(name, "-", text("no"))}, sample(), nil, want{"no", "no", list("no"), sample()})
		checkParts(t, "P2", []api.Part{op(name, "len")}, sample(), nil, want{"0", "0", list("0"), sample()})
		checkRefused(t, "P3", []api.Part{op(name, "?", text("no"))}, sample(), api.ErrUnset)
	}
	// What is no variable can't be set: layer 12 has an error for that.
	for _, name := range []string{"", "1 ", "9", "+1", "é", "00"} {
		checkRefused(t, "P3", []api.Part{op(name, "=", text("x"))}, sample(), api.ErrArg)
		checkRefused(t, "P3", []api.Part{op(name, ":=", text("x"))}, sample(), api.ErrArg)
	}
	for _, name := range []string{"@", "*", "1"} {
		checkRefused(t, "P3", []api.Part{op(name, "=", text("x"))}, withArgs(), api.ErrArg)
		checkRefused(t, "P3", []api.Part{op(name, ":=", text("x"))}, withArgs(""), api.ErrArg)
	}
	checkParts(t, "P3", []api.Part{op("1", "=", text("x"))}, sample(), nil, want{"one", "one", list("one"), sample()})
	checkParts(t, "P3", []api.Part{op("#", ":=", text("x"))}, sample(), nil, want{"3", "3", list("3"), sample()})
}

func TestNoOp(t *testing.T) {
	checkWords(t, "P3", []wordCase{
		{"$a", "5", "5", list("5")},
		{`"$a"`, "5", `\5`, list("5")},
		{"$none", "", "", nil},
		{`"$none"`, "", "", list("")},
		{"$e$none", "", "", nil},
		{`$e"$none"`, "", "", list("")},
		{"$s", " 1  2 ", " 1  2 ", list("1", "2")},
		{`"$s"`, " 1  2 ", `\ \1\ \ \2\ `, list(" 1  2 ")},
		{"x${s}y", "x 1  2 y", "x 1  2 y", list("x", "1", "2", "y")},
		{`x"$s"y`, "x 1  2 y", `x\ \1\ \ \2\ y`, list("x 1  2 y")},
		{"$exp$a", "x y5", "x y5", list("x", "y5")},
		{"$star", "*", "*", list("a", "ab", "b", "d")},
		{`"$star"`, "*", `\*`, list("*")},
		{"d/$star", "d/*", "d/*", list("d/x", "d/y")},
		{"$bs", `\*`, `\\*`, list(`\*`)},
		{`"$bs"`, `\*`, `\\\*`, list(`\*`)},
		{"${a}$a", "55", "55", list("55")},
		{"$3", "3 4", "3 4", list("3", "4")},
		{`"$3"`, "3 4", `\3\ \4`, list("3 4")},
		{"$#", "3", "3", list("3")},
		{`"$?"`, "7", `\7`, list("7")},
	})
	// A Word without an Op means nothing.
	checkParts(t, "P3", []api.Part{op("a", "", text("x"), arithmetic("1/0"))}, sample(), nil, want{"5", "5", list("5"), sample()})
	checkParts(t, "P3", []api.Part{op("a", "len", text("x"), arithmetic("1/0"))}, sample(), nil, want{"1", "1", list("1"), sample()})
	checkParts(t, "P3", []api.Part{op("@", "", text("x"), arithmetic("1/0"))}, withArgs("y"), nil, want{"y", "y", list("y"), withArgs("y")})
}

func TestArguments(t *testing.T) {
	checkWords(t, "P3", []wordCase{
		{"$@", "one  3 4", "one  3 4", list("one", "3", "4")},
		{"$*", "one  3 4", "one  3 4", list("one", "3", "4")},
		{`"$@"`, "one  3 4", `\o\n\e  \3\ \4`, list("one", "", "3 4")},
		{`"$*"`, "one  3 4", `\o\n\e\ \ \3\ \4`, list("one  3 4")},
		{"x$@y", "xone  3 4y", "xone  3 4y", list("xone", "3", "4y")},
		{`x"$@"y`, "xone  3 4y", `x\o\n\e  \3\ \4y`, list("xone", "", "3 4y")},
		{`x"$*"y`, "xone  3 4y", `x\o\n\e\ \ \3\ \4y`, list("xone  3 4y")},
		{`"$@$@"`, "one  3 4one  3 4", `\o\n\e  \3\ \4\o\n\e  \3\ \4`, list("one", "", "3 4one", "", "3 4")},
		{`"${@}"`, "one  3 4", `\o\n\e  \3\ \4`, list("one", "", "3 4")},
		{"${*}", "one  3 4", "one  3 4", list("one", "3", "4")},
	})
	for _, s := range []api.Shell{withArgs(), {Args: []string{}}} {
		checkWordsIn(t, "P3", s, nil, []wordCase{
			{"$@", "", "", nil},
			{"$*", "", "", nil},
			{`"$@"`, "", "", nil},
			{`"$*"`, "", "", list("")},
			{`x"$@"y`, "xy", "xy", list("xy")},
			{`"$@""$@"`, "", "", nil},
			{`"$@"''`, "", "", list("")},
		})
	}
	checkWordsIn(t, "P3", withArgs("", ""), nil, []wordCase{
		{"$@", " ", " ", nil},
		{"$*", " ", " ", nil},
		{`"$@"`, " ", " ", list("", "")},
		{`"$*"`, " ", `\ `, list(" ")},
		{`x"$@"y`, "x y", "x y", list("x", "y")},
	})
	checkWordsIn(t, "P3", withArgs("*", `\`, "'"), nil, []wordCase{
		{"$@", `* \ '`, `* \\ '`, list("a", "ab", "b", "d", `\`, "'")},
		{`"$@"`, `* \ '`, `\* \\ \'`, list("*", `\`, "'")},
	})
}

// TestIFS has quoted stars, whose arguments are separated by the first byte of the IFS.
func TestIFS(t *testing.T) {
	for _, c := range []struct {
		ifs, text, pattern string
		star               []string // the fields of $*
	}{
		{" \t\n", "one  3 4", `\o\n\e\ \ \3\ \4`, list("one", "3", "4")},
		{"", "one3 4", `\o\n\e\3\ \4`, list("one", "3 4")},
		{":", "one::3 4", `\o\n\e\:\:\3\ \4`, list("one", "3 4")},
		{":; ", "one::3 4", `\o\n\e\:\:\3\ \4`, list("one", "3", "4")},
		{"\n", "one\n\n3 4", "\\o\\n\\e\\\n\\\n\\3\\ \\4", list("one", "3 4")},
		{"n4", "onenn3 4", `\o\n\e\n\n\3\ \4`, list("o", "e", "3 ")},
		{"é", "one\xc3\xc33 4", "\\o\\n\\e\\\xc3\\\xc3\\3\\ \\4", list("one", "3 4")},
	} {
		s := withVar(sample(), "IFS", c.ifs)
		checkWordsIn(t, "P3", s, nil, []wordCase{{`"$*"`, c.text, c.pattern, list(c.text)}, {`"${*}"`, c.text, c.pattern, list(c.text)}})
		checkTexts(t, "P3", s, []textCase{{"$*", "one  3 4"}, {"$@", "one  3 4"}, {`"$@"`, "one  3 4"}, {`"${*-}"`, "one  3 4"}, {`"${*#o}"`, "ne  3 4"}})
		for _, name := range list("*", "@") {
			found, _, _ := expand.Fields(process(), []api.Part{op(name, "")}, s, nil)
			if strings.Join(found, "|") != strings.Join(c.star, "|") {
				t.Errorf("P6: the fields of $%s with the IFS %q: %q, not %q", name, c.ifs, found, c.star)
			}
		}
		checkWordsIn(t, "P3", s, nil, []wordCase{{`"$@"`, "one  3 4", `\o\n\e  \3\ \4`, list("one", "", "3 4")}})
	}
	// The IFS is the one that earlier parts have set.
	checkSets(t, "P4", sample(), []setCase{
		{`"$*${IFS=-+}$*"`, "one  3 4-+one--3 4", `\o\n\e\ \ \3\ \4\-\+\o\n\e\-\-\3\ \4`, list("one  3 4-+one--3 4"), "IFS", "-+"},
		{`"${IFS=}$*"`, "one3 4", `\o\n\e\3\ \4`, list("one3 4"), "IFS", ""},
		{`"$*$((IFS = 0))$*"`, "one  3 40one003 4", `\o\n\e\ \ \3\ \4\0\o\n\e\0\0\3\ \4`, list("one  3 40one003 4"), "IFS", "0"},
		{`${none-"${IFS=:}$*"}`, ":one::3 4", `\:\o\n\e\:\:\3\ \4`, list(":one::3 4"), "IFS", ":"},
	})
}

// TestFieldsIFS has fields that are split with the IFS after the whole word.
func TestFieldsIFS(t *testing.T) {
	s := withVar(sample(), "c", "1:2 3")
	checkWordsIn(t, "P6", s, nil, []wordCase{{"$c", "1:2 3", "1:2 3", list("1:2", "3")}})
	checkSets(t, "P6", s, []setCase{
		{"$c${IFS=:}", "1:2 3:", "1:2 3:", list("1", "2 3"), "IFS", ":"},
		{"$c${IFS=:}x", "1:2 3:x", "1:2 3:x", list("1", "2 3", "x"), "IFS", ":"},
		{`$c"${IFS=:}"`, "1:2 3:", `1:2 3\:`, list("1", "2 3:"), "IFS", ":"},
		{"$c$((IFS=2))", "1:2 32", "1:2 32", list("1:", " 3"), "IFS", "2"},
	})
	s = withVar(s, "IFS", "")
	checkWordsIn(t, "P6", s, nil, []wordCase{{"$c", "1:2 3", "1:2 3", list("1:2 3")}, {"$s", " 1  2 ", " 1  2 ", list(" 1  2 ")}, {"$star", "*", "*", list("a", "ab", "b", "d")}})
	// What is no text of the script is split, numbers too.
	s = withVar(sample(), "IFS", "13")
	checkWordsIn(t, "P3", s, list("a1b"), []wordCase{
		{"131", "131", "131", list("131")},
		{"$((212))", "212", "212", list("2", "2")},
		{`"$((212))"`, "212", `\2\1\2`, list("212")},
		{"$(c)", "a1b", "a1b", list("a", "b")},
		{`"$(c)"`, "a1b", `\a\1\b`, list("a1b")},
		{"x${#@}x", "x3x", "x3x", list("x", "x")},
		{`x"${#@}"x`, "x3x", `x\3x`, list("x3x")},
		{"x$#x", "x3x", "x3x", list("x", "x")},
		{"${3-}", "3 4", "3 4", list("", " 4")},
		{"${3?}", "3 4", "3 4", list("", " 4")},
		{"${3#x}", "3 4", "3 4", list("", " 4")},
		{"${none-131}", "131", "131", list("131")},
	})
	checkSets(t, "P3", s, []setCase{
		{"${none=131}", "131", "131", list("", "", ""), "none", "131"},
		{"${none='131'}", "131", "131", list("", "", ""), "none", "131"},
		{`"${none=131}"`, "131", `\1\3\1`, list("131"), "none", "131"},
	})
}

func TestLengths(t *testing.T) {
	checkWords(t, "P3", []wordCase{
		{"${#a}", "1", "1", list("1")},
		{`"${#dots}"`, "5", `\5`, list("5")},
		{"${#e}${#none}", "00", "00", list("00")},
		{"${#utf}", "2", "2", list("2")},
		{"${#s}", "6", "6", list("6")},
		{"${#1}${#2}${#3}${#4}", "3030", "3030", list("3030")},
		{"${#0}", "2", "2", list("2")},
		{"${##}", "1", "1", list("1")},
		{"${#?}", "1", "1", list("1")},
		{"${#@}", "3", "3", list("3")},
		{"${#*}", "3", "3", list("3")},
		{`"${#*}"`, "3", `\3`, list("3")},
	})
	checkTexts(t, "P3", withArgs(), []textCase{{"${#@}", "0"}, {"${#*}", "0"}, {"${##}", "1"}})
	checkTexts(t, "P3", withArgs(""), []textCase{{"${#@}", "1"}, {"${#*}", "1"}})
	checkTexts(t, "P3", withArgs(make([]string, 12)...), []textCase{{"${#@}", "12"}, {"${##}", "2"}})
	checkTexts(t, "P3", withVar(sample(), "a", strings.Repeat("é", 600)), []textCase{{"${#a}", "1200"}})
}
