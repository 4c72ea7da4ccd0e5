package pattern_test

import (
	"strings"
	"testing"

	"scullion/pattern"
)

// matchCase is a pattern, with strings that it matches and strings that it doesn't.
type matchCase struct {
	p        string
	yes, not []string
}

// list returns a list of strings.
func list(l ...string) []string { return l }

func checkMatches(t *testing.T, cases []matchCase) {
	t.Helper()
	for _, c := range cases {
		for _, s := range c.yes {
			if !pattern.Match(c.p, s) {
				t.Errorf("K1: %q doesn't match %q", c.p, s)
			}
		}
		for _, s := range c.not {
			if pattern.Match(c.p, s) {
				t.Errorf("K1: %q matches %q", c.p, s)
			}
		}
	}
}

func TestMatchBytes(t *testing.T) {
	checkMatches(t, []matchCase{
		{"", list(""), list("a", " ", "\x00", "*", `\`)},
		{"a", list("a"), list("", "b", "A", "aa", "ba", "ab", `\a`, "?", "*")},
		{"abc", list("abc"), list("", "a", "ab", "abd", "bc", "aabc", "abcc", "abcabc")},
		{"a\nb", list("a\nb"), list("a", "b", "ab", "a b")},
		{"a/.b", list("a/.b"), list("a/b", "a//b")},
		{"!^-]{},$(a|b)+@~'\"#& ", list("!^-]{},$(a|b)+@~'\"#& "), list("", "a", "b")},
		{"]", list("]"), list("", "[]", "]]")},
		{"a-c", list("a-c"), list("a", "b", "c")},
		{"\x00\xff", list("\x00\xff"), list("", "\x00", "\xff", "\x00\xfe")},
		{"é", list("é"), list("e", "\xc3", "\xa9", "è")},
	})
}

func TestMatchQuestion(t *testing.T) {
	checkMatches(t, []matchCase{
		{"?", list("a", "?", "*", "[", `\`, "/", ".", "\n", "\x00", "\xff"), list("", "aa", "é", `\?`)},
		{"??", list("ab", "é", "\xff\xff"), list("", "a", "abc")},
		{"a?c", list("abc", "a?c", "acc"), list("ac", "abbc", "abd", "bbc")},
		{"?a", list("aa", "ba"), list("a", "ab", "baa")},
		{"????", list("abcd", "éé", "😀"), list("abc", "abcde")},
	})
}

func TestMatchStar(t *testing.T) {
	checkMatches(t, []matchCase{
		{"*", list("", "a", "*", "abc", "a/b", ".a", "\n\n", "\x00\xff"), nil},
		{"**", list("", "a", "ab", "abc"), nil},
		{"a*", list("a", "aa", "abc", "a*", "a/.b"), list("", "ba", "b")},
		{"*a", list("a", "aa", "cba", "/a"), list("", "ab", "b")},
		{"*a*", list("a", "ba", "ab", "bab", "aaa"), list("", "b", "bcd")},
		{"a*b", list("ab", "aab", "abb", "acb", "aXbXb", "abab"), list("", "a", "b", "ba", "abc", "cab", "aba")},
		{"a*a", list("aa", "aaa", "aba"), list("a", "ab", "")},
		{"*aab", list("aab", "aaab", "aaaaab", "aabaab", "abaab"), list("ab", "aaba", "aabab")},
		{"a*b*c", list("abc", "abbcc", "aXbYc", "abcbc", "acbc"), list("acb", "ab", "bc", "abcd")},
		{"*ab*ba*", list("abba", "xabxbax", "ababa", "abbba", "aabbaa"), list("aba", "ab", "ba", "baab")},
		{"*?", list("a", "ab", "abc"), list("")},
		{"?*", list("a", "ab", "abc"), list("")},
		{"*?*?*", list("ab", "abc"), list("", "a")},
		{"a**b", list("ab", "axb", "aab"), list("a", "b", "ba")},
		{"*.*", list(".", "a.b", "a.b.c", ".."), list("", "ab")},
		{"a*bc*d", list("abcd", "abbcd", "abxbcxd", "abcbcd"), list("abd", "acd", "abcde")},
		{"*a?c", list("abc", "aabc", "abcabc", "aaac"), list("ac", "abcd", "abbc")},
		{"*[ab]c", list("ac", "abc", "cbc", "acbc"), list("c", "cc", "aca")},
	})
}

func TestMatchEscaped(t *testing.T) {
	checkMatches(t, []matchCase{
		{`\`, list(`\`), list("", `\\`, "a")},
		{`\\`, list(`\`), list("", `\\`)},
		{`\\\`, list(`\\`), list("", `\`, `\\\`)},
		{`\\\\`, list(`\\`), list(`\`, `\\\\`)},
		{`a\`, list(`a\`), list("a", `a\\`, "")},
		{`\a`, list("a"), list(`\a`, "", "b")},
		{`\n`, list("n"), list("\n", `\n`)},
		{"\\\n", list("\n"), list("", "\\\n")},
		{"\\\xff\\\x00", list("\xff\x00"), list("\\\xff\\\x00")},
		{`\*`, list("*"), list("", "a", `\`, `\*`, `\a`, "**")},
		{`\?`, list("?"), list("", "a", `\a`, `\?`)},
		{`\[a]`, list("[a]"), list("a", `\a`, `\[a]`)},
		{`\\*`, list(`\`, `\a`, `\*`), list("", "*", "a")},
		{`\\?`, list(`\a`, `\?`), list("", `\`, "?")},
		{`\\[a]`, list(`\a`), list("[a]", "a", `\[a]`)},
		{`*\`, list(`\`, `a\`, `\\`), list("", "*", "a")},
		{`*\*`, list("*", "a*", "**"), list("", "a", "*a", `*\`)},
		{`a\*b*`, list("a*b", "a*bc"), list("ab", "acb", `a\*b`)},
	})
}

// brackets are patterns that are one bracket expression, with the bytes that are in it.
var brackets = []struct{ p, in string }{
	{"[a]", "a"},
	{"[abc]", "abc"},
	{"[aa]", "a"},
	{"[a-e]", "abcde"},
	{"[a-a]", "a"},
	{"[e-a]", ""},
	{"[b-a]", ""},
	{"[b-ac]", "c"},
	{"[a-cx-z]", "abcxyz"},
	{"[a-cb-d]", "abcd"},
	{"[a-c-e]", "abc-e"},
	{"[a-]", "a-"},
	{"[-a]", "-a"},
	{"[-]", "-"},
	{"[--]", "-"},
	{"[---]", "-"},
	{"[----]", "-"},
	{"[+--]", "+,-"},
	{"[--/]", "-./"},
	{"[a--]", ""},
	{"[---a]", "-a"},
	{"[a-b-]", "ab-"},
	{"[]]", "]"},
	{"[]a]", "]a"},
	{"[]-a]", "]^_`a"},
	{"[]-]", "]-"},
	{"[]-\\]]", "]"},
	{"[Z-\\]]", "Z[\\]"},
	{"[a-\\]]", ""},
	{"[a\\-]", "a-"},
	{"[a\\-c]", "a-c"},
	{"[\\a-c]", "abc"},
	{"[a-\\c]", "abc"},
	{"[\\a-\\c]", "abc"},
	{"[\\--0]", "-./0"},
	{"[+-\\-]", "+,-"},
	{"[\\]]", "]"},
	{"[\\]a]", "]a"},
	{"[a\\]]", "a]"},
	{"[\\\\]", "\\"},
	{"[\\\\a]", "\\a"},
	{"[Z-\\\\]", "Z[\\"},
	{"[\\\\-\\]]", "\\]"},
	{"[\\[]", "["},
	{"[[]", "["},
	{"[[a]", "[a"},
	{"[[-]", "[-"},
	{"[*]", "*"},
	{"[?]", "?"},
	{"[*?]", "*?"},
	{"[)-+]", ")*+"},
	{"[\\!a]", "!a"},
	{"[a!]", "a!"},
	{"[ -!]", " !"},
	{"[\\!-#]", "!\"#"},
	{"[^a]", "^a"},
	{"[[:alpha:]", "[:alph"},
	{"[a,b]", "a,b"},
	{"[a b\n]", "a b\n"},
	{"[/.]", "/."},
	{"[\x00-\x02]", "\x00\x01\x02"},
	{"[\xfe-\xff]", "\xfe\xff"},
	{"[\xff-\x00]", ""},
	{"[é]", "\xc3\xa9"},
	{"[\\é]", "\xc3\xa9"},
}

// checkSet fails unless a pattern matches just those bytes that are in a string, or just the others if not is true, and nothing else.
func checkSet(t *testing.T, p, in string, not bool) {
	t.Helper()
	for c := range 256 {
		one := string([]byte{byte(c)})
		if want := strings.Contains(in, one) != not; pattern.Match(p, one) != want {
			t.Errorf("K1: %q and %q: %t", p, one, !want)
		}
		if pattern.Match(p, one+one) {
			t.Errorf("K1: %q matches %q", p, one+one)
		}
	}
	if pattern.Match(p, "") || pattern.Match(p, p) {
		t.Errorf("K1: %q matches nothing, or itself", p)
	}
}

func TestMatchBracket(t *testing.T) {
	for _, b := range brackets {
		checkSet(t, b.p, b.in, false)
	}
	checkSet(t, "[\x00-\xff]", "", true)
}

// TestMatchNot has an expression with `!` for each one without.
func TestMatchNot(t *testing.T) {
	for _, b := range brackets {
		checkSet(t, "[!"+b.p[1:], b.in, true)
	}
	checkSet(t, "[!!]", "!", true)
	checkSet(t, "[!!!]", "!", true)
	checkSet(t, "[!!a]", "!a", true)
	checkSet(t, "[!!-#]", "!\"#", true)
	checkSet(t, "[!\\!]", "!", true)
	checkSet(t, "[!\x00-\xff]", "", false)
}

func TestMatchAroundBracket(t *testing.T) {
	checkMatches(t, []matchCase{
		{"a[!b-d]*", list("aexy", "aa", "a]", "a*"), list("a", "ab", "acx", "adexy", "eexy", "")},
		{"[ab][cd]", list("ac", "ad", "bc", "bd"), list("a", "c", "ab", "ca", "acc")},
		{"x[ab]y", list("xay", "xby"), list("xy", "xaby", "xcy", "x[ab]y")},
		{"[a]]", list("a]"), list("a", "]", "[a]]")},
		{"[a-]]", list("a]", "-]"), list("a", "]", "b]")},
		{"[]a]]", list("a]", "]]"), list("a", "]")},
		{"[!]a]]", list("b]"), list("a]", "]]", "b")},
		{"[!a]]", list("b]", "]]"), list("a]", "b", "]")},
		{"[[:alpha:]]", list("a]", ":]", "[]"), list("a", "b]", "[:alpha:]")},
		{"[[]]", list("[]"), list("[", "]", "[[]]")},
		{"[a]b]", list("ab]"), list("a", "b", "]")},
		{"[a][]", list("a[]"), list("a", "a]", "[")},
		{"[*]*", list("*", "**", "*a"), list("", "a", "a*")},
		{`[\\]]`, list(`\]`), list(`\`, "]", `\\]`)},
		{"[a*", list("[a", "[ab"), list("a", "", "[")},
	})
}

// TestMatchUnclosed has a `[` that begins no bracket expression.
func TestMatchUnclosed(t *testing.T) {
	checkMatches(t, []matchCase{
		{"[", list("["), list("", "a", "]", "[]", "[[")},
		{"[]", list("[]"), list("", "[", "]", "[]]")},
		{"[!", list("[!"), list("", "[", "!", "a")},
		{"[!]", list("[!]"), list("", "!", "[", "a", "]")},
		{"[a", list("[a"), list("a", "[", "")},
		{"[!a", list("[!a"), list("b", "!", "[b")},
		{"[a-", list("[a-"), list("a", "-")},
		{"[a-z", list("[a-z"), list("b", "[b")},
		{`[\`, list(`[\`), list(`\`, "[", "")},
		{`[\]`, list("[]"), list(`\`, "]", `[\]`)},
		{`[a\]`, list("[a]"), list("a", "]", `[a\]`)},
		{`[a-\]`, list("[a-]"), list("a", "]", "b", `[a-\]`)},
		{`[!\]`, list("[!]"), list("a", `[!\]`)},
		{`[a\`, list(`[a\`), list("a", `\`)},
		{`[\\`, list(`[\`), list(`[\\`, `\`)},
		{"[]*", list("[]", "[]a", "[]*"), list("[", "]", "[a")},
		{"[!]*", list("[!]", "[!]a"), list("[", "a", "ab", "[!")},
		{"[?", list("[a", "[?"), list("a", "?", "[")},
		{"a[b*", list("a[b", "a[bc"), list("ab", "a[", "a")},
		{"[[", list("[["), list("[", "[[[")},
		{"[[]a", list("[a"), list("[[]a", "]a", "a")},
		{"[][", list("[]["), list("[", "]", "[]")},
		{"[][]", list("[", "]"), list("[]", "[][]", "")},
		{`\[a]*[`, list("[a][", "[a]b["), list("a[", "[a]")},
		{"[]?[b*", list("[]a[b", "[]][bc"), list("[][b", "]a[b")},
	})
}

func TestEscape(t *testing.T) {
	for s, want := range map[string]string{
		"":               "",
		"a":              `\a`,
		"abc":            `\a\b\c`,
		`\`:              `\\`,
		`\a`:             `\\\a`,
		`\\`:             `\\\\`,
		"*?[]!-":         `\*\?\[\]\!\-`,
		" \t\n":          "\\ \\\t\\\n",
		"é":              "\\\xc3\\\xa9",
		"\x00\xff\x80":   "\\\x00\\\xff\\\x80",
		"$x `y` 'z' \"w": "\\$\\x\\ \\`\\y\\`\\ \\'\\z\\'\\ \\\"\\w",
	} {
		if got := pattern.Escape(s); got != want {
			t.Errorf("K2: Escape(%q): %q, want %q", s, got, want)
		}
	}
}

func TestPlain(t *testing.T) {
	for p, want := range map[string]string{
		"":                   "",
		"abc":                "abc",
		`\a`:                 "a",
		`\a\b\c`:             "abc",
		`a\bc`:               "abc",
		`\`:                  `\`,
		`a\`:                 `a\`,
		`\\`:                 `\`,
		`\\\`:                `\\`,
		`\\\\`:               `\\`,
		`\\\\\`:              `\\\`,
		`\\a`:                `\a`,
		`\\\a`:               `\a`,
		`\a\`:                `a\`,
		`\*\?\[`:             "*?[",
		"*?[a-b]":            "*?[a-b]",
		`[\]a]`:              "[]a]",
		`[a\`:                `[a\`,
		"\\\n\\ \\'":         "\n '",
		"\\\xc3\\\xa9":       "é",
		"\\é\\\x00\xff\\\\z": "é\x00\xff\\z",
	} {
		if got := pattern.Plain(p); got != want {
			t.Errorf("K2: Plain(%q): %q, want %q", p, got, want)
		}
	}
}

func TestSpecial(t *testing.T) {
	for p, want := range map[string]bool{
		"":              false,
		"abc":           false,
		"*":             true,
		"?":             true,
		"[":             true,
		"]":             false,
		"!-]{}^$+@~":    false,
		"a*":            true,
		"*a":            true,
		"a?b":           true,
		"a[":            true,
		"[]":            true,
		"[a":            true,
		"[a]":           true,
		`\*`:            false,
		`\?`:            false,
		`\[`:            false,
		`\*\?\[a]`:      false,
		`\**`:           true,
		`\*?`:           true,
		`\[a*`:          true,
		`\\*`:           true,
		`\\?`:           true,
		`\\[`:           true,
		`\\\*`:          false,
		`\\\\*`:         true,
		`\a*`:           true,
		`\`:             false,
		`\\`:            false,
		`a\`:            false,
		`*\`:            true,
		"\xff\x00\n":    false,
		"é":             false,
		"ab/c.d e\\ \\": false,
		"[\\*":          true,
	} {
		if got := pattern.Special(p); got != want {
			t.Errorf("K2: Special(%q): %t", p, got)
		}
	}
}
