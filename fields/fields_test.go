package fields_test

import (
	"slices"
	"strings"
	"testing"

	"scullion/api"
	"scullion/fields"
)

func plain(text string) api.Seg   { return api.Seg{Kind: api.Plain, Text: text} }
func literal(text string) api.Seg { return api.Seg{Kind: api.Literal, Text: text} }
func split(text string) api.Seg   { return api.Seg{Kind: api.Split, Text: text} }
func stop() api.Seg               { return api.Seg{Kind: api.Break} }

func segs(l ...api.Seg) []api.Seg   { return l }
func list(l ...string) []string     { return l }
func fieldsOf(l []api.Seg) []string { return fields.Fields(l, " \t\n") }

// fieldCase is some segments, an ifs and the fields.
type fieldCase struct {
	l    []api.Seg
	ifs  string
	want []string
}

func checkFields(t *testing.T, cases []fieldCase) {
	t.Helper()
	for _, c := range cases {
		if got := fields.Fields(c.l, c.ifs); !slices.Equal(got, c.want) {
			t.Errorf("N1: Fields(%+v, %q): %q, not %q", c.l, c.ifs, got, c.want)
		}
	}
}

func TestPlain(t *testing.T) {
	checkFields(t, []fieldCase{
		{nil, " ", nil},
		{segs(), "", nil},
		{segs(plain("")), " ", nil},
		{segs(plain(""), plain("")), " ", nil},
		{segs(plain("a")), " ", list("a")},
		{segs(plain("a b")), " ", list("a b")},
		{segs(plain(" ")), " ", list(" ")},
		{segs(plain("a:b"), plain("c")), ":", list("a:bc")},
		{segs(plain("a"), plain(""), plain("b")), "", list("ab")},
		{segs(plain("*?[a]")), "", list("*?[a]")},
		{segs(plain(`a\b`)), "", list(`a\\b`)},
		{segs(plain(`\\`), plain(`\`)), "", list(`\\\\\\`)},
		{segs(plain("\xff\x00é")), "", list("\xff\x00é")},
	})
}

func TestLiteral(t *testing.T) {
	checkFields(t, []fieldCase{
		{segs(literal("")), " ", list("")},
		{segs(literal(""), literal("")), " ", list("")},
		{segs(literal("a b")), " ", list(`\a\ \b`)},
		{segs(literal(" ")), " ", list(`\ `)},
		{segs(literal("a:b"), literal(":")), ":", list(`\a\:\b\:`)},
		{segs(literal(`*\`)), "", list(`\*\\`)},
		{segs(plain("a"), literal("b"), plain("c")), "", list(`a\bc`)},
		{segs(plain(""), literal(""), plain("")), "", list("")},
		{segs(literal("é")), "", list("\\\xc3\\\xa9")},
	})
}

func TestBreak(t *testing.T) {
	checkFields(t, []fieldCase{
		{segs(stop()), " ", nil},
		{segs(stop(), stop()), "", nil},
		{segs(plain("a"), stop(), plain("b")), "", list("a", "b")},
		{segs(plain("a"), stop(), stop(), plain("b")), "", list("a", "b")},
		{segs(stop(), plain("a"), stop()), "", list("a")},
		{segs(literal(""), stop(), literal("")), " ", list("", "")},
		{segs(stop(), literal(""), stop()), " ", list("")},
		{segs(plain(""), stop(), plain("")), " ", nil},
		{segs(plain("a"), stop(), plain(""), stop(), plain("b")), "", list("a", "b")},
		{segs(plain("a"), api.Seg{Kind: api.Break, Text: "x"}, plain("b")), "", list("a", "b")},
		{segs(split("a"), stop(), split("b")), "", list("a", "b")},
	})
}

func TestSplitAtBlanks(t *testing.T) {
	checkFields(t, []fieldCase{
		{segs(split("")), " ", nil},
		{segs(split(" ")), " ", nil},
		{segs(split("a")), " ", list("a")},
		{segs(split("a b")), " ", list("a", "b")},
		{segs(split("  a   b  ")), " ", list("a", "b")},
		{segs(split(" \ta\n\nb\t c \n")), " \t\n", list("a", "b", "c")},
		{segs(split("a b\tc\nd")), "\t", list("a b", "c\nd")},
		{segs(split("a b\tc\nd")), "\n", list("a b\tc", "d")},
		{segs(split("a b\tc\nd")), "", list("a b\tc\nd")},
		{segs(split("a b")), "  ", list("a", "b")},
		{segs(split("a "), split(" b")), " ", list("a", "b")},
		{segs(split("a"), split("b")), " ", list("ab")},
		{segs(split("*?[a] b")), " ", list("*?[a]", "b")},
		{segs(split(`a\b \`)), " ", list(`a\\b`, `\\`)},
		{segs(split("é \xff\x00")), " ", list("é", "\xff\x00")},
	})
}

func TestSplitAtSeparators(t *testing.T) {
	checkFields(t, []fieldCase{
		{segs(split(":")), ":", list("")},
		{segs(split("::")), ":", list("", "")},
		{segs(split("a:")), ":", list("a")},
		{segs(split("a::")), ":", list("a", "")},
		{segs(split(":a")), ":", list("", "a")},
		{segs(split("a:b")), ":", list("a", "b")},
		{segs(split("a::b")), ":", list("a", "", "b")},
		{segs(split("a:;b")), ";:", list("a", "", "b")},
		{segs(split("a: b")), ":", list("a", " b")},
		{segs(split("a:b;c")), ";", list("a:b", "c")},
		{segs(split("a:"), split(":b")), ":", list("a", "", "b")},
		{segs(split("a\rb\vc\fd\x00e")), "\r\v\f\x00", list("a", "b", "c", "d", "e")},
		{segs(split("\r\r")), "\r", list("", "")},
		{segs(split("axbxxc")), "x", list("a", "b", "", "c")},
		{segs(split("a\xc3\xa9b")), "\xa9", list("a\xc3", "b")},
		{segs(split("aéb")), "é", list("a", "", "b")},
		{segs(split("a**b")), "*", list("a", "", "b")},
	})
}

func TestSplitAtBoth(t *testing.T) {
	checkFields(t, []fieldCase{
		{segs(split("a b:: c")), " :", list("a", "b", "", "c")},
		{segs(split("a : b")), " :", list("a", "b")},
		{segs(split("a :: b")), " :", list("a", "", "b")},
		{segs(split("a : : b")), " :", list("a", "", "b")},
		{segs(split("a  :  b")), ": ", list("a", "b")},
		{segs(split(" : a")), " :", list("", "a")},
		{segs(split(" :a")), " :", list("", "a")},
		{segs(split(": a")), " :", list("", "a")},
		{segs(split("a :")), " :", list("a")},
		{segs(split("a : ")), " :", list("a")},
		{segs(split("a ::")), " :", list("a", "")},
		{segs(split("a: :")), " :", list("a", "")},
		{segs(split("a: : b")), " :", list("a", "", "b")},
		{segs(split("a\t:b\n;c")), ":;\n\t", list("a", "b", "c")},
		{segs(split("a\t:b\n;c")), ":;\n", list("a\t", "b", "c")},
		{segs(split("a b:c")), ":", list("a b", "c")},
	})
}

// TestSpaced has things between a blank that ended a field and a separator behind it.
func TestSpaced(t *testing.T) {
	checkFields(t, []fieldCase{
		{segs(split("a "), split(":b")), " :", list("a", "b")},
		{segs(split("a "), split(""), split(" "), split(":b")), " :", list("a", "b")},
		{segs(split("a "), plain(""), split(":b")), " :", list("a", "b")},
		{segs(split("a "), api.Seg{Kind: 4, Text: "x"}, split(":b")), " :", list("a", "b")},
		{segs(split("a "), stop(), split(":b")), " :", list("a", "", "b")},
		{segs(split("a "), stop(), split(" :b")), " :", list("a", "", "b")},
		{segs(split("a "), plain("c"), split(":b")), " :", list("a", "c", "b")},
		{segs(split("a "), plain("c"), split("::b")), " :", list("a", "c", "", "b")},
		{segs(split("a "), literal(""), split(":b")), " :", list("a", "", "b")},
		{segs(split("a "), literal(""), split("::b")), " :", list("a", "", "", "b")},
		{segs(split("a "), literal(""), split(" :b")), " :", list("a", "", "b")},
		{segs(split("a "), literal(""), stop(), split(":b")), " :", list("a", "", "", "b")},
		{segs(split("a "), split(":"), split(":b")), " :", list("a", "", "b")},
		{segs(plain("a"), split(" :b")), " :", list("a", "b")},
		{segs(literal(""), split(" :b")), " :", list("", "b")},
		{segs(plain("a"), stop(), split(" :b")), " :", list("a", "", "b")},
		{segs(plain("a"), stop(), split(":b")), " :", list("a", "", "b")},
		{segs(plain("a"), split(":b")), " :", list("a", "b")},
		{segs(split("a:"), stop(), split(":b")), " :", list("a", "", "b")},
	})
}

// TestParts has fields of which segments of several Kinds are parts.
func TestParts(t *testing.T) {
	checkFields(t, []fieldCase{
		{segs(plain("a"), split("1 2"), literal("1 2")), " ", list("a1", `2\1\ \2`)},
		{segs(split("a "), literal("b"), split(" c")), " ", list("a", `\b`, "c")},
		{segs(split("a"), literal("b"), split("c")), " ", list(`a\bc`)},
		{segs(split(" "), plain("a"), split(" ")), " ", list("a")},
		{segs(plain("a"), split(" "), plain("b")), " ", list("a", "b")},
		{segs(plain("a"), split(""), plain("b")), " ", list("ab")},
		{segs(plain("a"), split(":"), plain("b")), ":", list("a", "b")},
		{segs(plain("a"), split("::"), plain("b")), ":", list("a", "", "b")},
		{segs(plain(":"), split(":"), literal(":")), ":", list(":", `\:`)},
		{segs(plain(`\`), split(`\`), literal(`\`)), "", list(`\\\\\\`)},
		{segs(literal("a"), stop(), literal("b c"), plain("d")), " ", list(`\a`, `\b\ \cd`)},
	})
}

// TestBackslashInIfs has a backslash as a separator: it is one, though in a field it would be doubled.
func TestBackslashInIfs(t *testing.T) {
	checkFields(t, []fieldCase{
		{segs(split(`a\b`)), `\`, list("a", "b")},
		{segs(split(`a\\b`)), `\`, list("a", "", "b")},
		{segs(split(`\`)), `\`, list("")},
		{segs(split(`a \b`)), ` \`, list("a", "b")},
		{segs(plain(`a\b`), literal(`\`)), `\`, list(`a\\b\\`)},
	})
}

func TestOtherKinds(t *testing.T) {
	for _, kind := range []int{-1, 4, 5, 100, -1 << 63, 1<<63 - 1} {
		other := api.Seg{Kind: kind, Text: "x :y"}
		checkFields(t, []fieldCase{
			{segs(other), " :", nil},
			{segs(plain("a"), other, plain("b")), " :", list("ab")},
			{segs(split("a "), other, split(":b")), " :", list("a", "b")},
			{segs(split("a:"), other, split(":b")), " :", list("a", "", "b")},
			{segs(literal(""), other), " :", list("")},
		})
	}
}

// allBut returns all bytes but those of a text.
func allBut(text string) string {
	var l []byte
	for c := range 256 {
		if strings.IndexByte(text, byte(c)) < 0 {
			l = append(l, byte(c))
		}
	}
	return string(l)
}

// TestEachByte has each byte between two others, in the ifs and not in it.
func TestEachByte(t *testing.T) {
	for c := range 256 {
		s := string([]byte{byte(c)})
		text := "\x80" + s + s + "\x81"
		others := allBut(text)
		inField := strings.ReplaceAll(text, `\`, `\\`)
		want := list("\x80", "", "\x81")
		switch {
		case strings.Contains(" \t\n", s):
			want = list("\x80", "\x81")
		case strings.Contains("\x80\x81", s):
			continue
		}
		checkFields(t, []fieldCase{
			{segs(split(text)), s, want},
			{segs(split(text)), "", list(inField)},
			{segs(split(text)), others, list(inField)},
			{segs(plain(text)), s, list(inField)},
			{segs(literal(s)), s, list(`\` + s)},
		})
	}
}

// joinCase is some segments, their texts joined as one text, and as a pattern.
type joinCase struct {
	l          []api.Seg
	text, want string
}

func TestJoined(t *testing.T) {
	for _, c := range []joinCase{
		{nil, "", ""},
		{segs(plain("")), "", ""},
		{segs(plain("a*b")), "a*b", "a*b"},
		{segs(plain(`a\b\\`)), `a\b\\`, `a\\b\\\\`},
		{segs(literal("")), "", ""},
		{segs(literal(`a*\`)), `a*\`, `\a\*\\`},
		{segs(split(" a  b: ")), " a  b: ", " a  b: "},
		{segs(split(`\*`)), `\*`, `\\*`},
		{segs(stop()), " ", " "},
		{segs(stop(), stop()), "  ", "  "},
		{segs(plain("a"), stop(), split("b")), "a b", "a b"},
		{segs(literal("a"), stop(), literal("b")), "a b", `\a \b`},
		{segs(plain("a"), literal("b"), split("c")), "abc", `a\bc`},
		{segs(plain("a"), api.Seg{Kind: api.Break, Text: "x"}, plain("b")), "a b", "a b"},
		{segs(api.Seg{Kind: 4, Text: `x\*`}), `x\*`, `x\\*`},
		{segs(plain("a"), api.Seg{Kind: -1, Text: `\`}, literal("b")), `a\b`, `a\\\b`},
		{segs(literal("é\x00")), "é\x00", "\\\xc3\\\xa9\\\x00"},
	} {
		if got := fields.Joined(c.l, false); got != c.text {
			t.Errorf("N2: Joined(%+v, false): %q, not %q", c.l, got, c.text)
		}
		if got := fields.Joined(c.l, true); got != c.want {
			t.Errorf("N2: Joined(%+v, true): %q, not %q", c.l, got, c.want)
		}
	}
}

// TestMemory has segments in a part of a slice, which stay as they are, as does what is behind them.
func TestMemory(t *testing.T) {
	whole := segs(split("a b"), literal("c"), stop(), plain("d"), literal("behind"))
	before := slices.Clone(whole)
	first := fieldsOf(whole[:4])
	second := fieldsOf(whole[:4])
	fields.Joined(whole[:4], true)
	if !slices.Equal(whole, before) {
		t.Errorf("R3: the segments are %+v after the calls", whole)
	}
	first[0] = "x"
	if second[0] != "a" || !slices.Equal(fieldsOf(whole[:4]), list("a", `b\c`, "d")) {
		t.Errorf("R4: the fields change with those of an earlier call")
	}
}
