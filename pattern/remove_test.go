package pattern_test

import (
	"testing"

	"scullion/pattern"
)

// removal is what is left of a string without the shortest and the longest prefix, and without the shortest and the longest suffix.
type removal struct{ prefix, longPrefix, suffix, longSuffix string }

// unchanged is the removal of what a pattern doesn't match anywhere.
func unchanged(s string) removal { return removal{s, s, s, s} }

func TestRemove(t *testing.T) {
	for _, c := range []struct {
		s, p string
		want removal
	}{
		{"a.b.c", ".*", removal{"a.b.c", "a.b.c", "a.b", "a"}},
		{"a.b.c", "*.", removal{"b.c", "c", "a.b.c", "a.b.c"}},
		{"a.b.c", "*.*", removal{"b.c", "", "a.b", ""}},
		{"/a/b/c", "*/", removal{"a/b/c", "c", "/a/b/c", "/a/b/c"}},
		{"/a/b/c", "/*", removal{"a/b/c", "", "/a/b", ""}},
		{"a/b/", "/", removal{"a/b/", "a/b/", "a/b", "a/b"}},

		{"", "", unchanged("")},
		{"", "*", unchanged("")},
		{"", "?", unchanged("")},
		{"", "a", unchanged("")},
		{"abc", "", unchanged("abc")},
		{"abc", "*", removal{"abc", "", "abc", ""}},
		{"abc", "***", removal{"abc", "", "abc", ""}},
		{"abc", "?", removal{"bc", "bc", "ab", "ab"}},
		{"abc", "???", removal{}},
		{"abc", "????", unchanged("abc")},
		{"abc", "*?", removal{"bc", "", "ab", ""}},
		{"abc", "?*", removal{"bc", "", "ab", ""}},
		{"abc", "??*", removal{"c", "", "a", ""}},
		{"abc", "a", removal{"bc", "bc", "abc", "abc"}},
		{"abc", "c", removal{"abc", "abc", "ab", "ab"}},
		{"abc", "b", unchanged("abc")},
		{"abc", "abc", removal{}},
		{"abc", "abcd", unchanged("abc")},
		{"abc", "xabc", unchanged("abc")},
		{"aaa", "a", removal{"aa", "aa", "aa", "aa"}},
		{"aaa", "a*", removal{"aa", "", "aa", ""}},
		{"aaa", "*a", removal{"aa", "", "aa", ""}},
		{"aaa", "*a*", removal{"aa", "", "aa", ""}},
		{"aaa", "*a*a", removal{"a", "", "a", ""}},
		{"abab", "*b", removal{"ab", "", "aba", ""}},
		{"abab", "a*", removal{"bab", "", "ab", ""}},
		{"abab", "ab", removal{"ab", "ab", "ab", "ab"}},
		{"ababa", "a*a", removal{"ba", "", "ab", ""}},
		{"ababa", "b*", removal{"ababa", "ababa", "aba", "a"}},
		{"ababa", "*b", removal{"aba", "a", "ababa", "ababa"}},
		{"xaxbx", "*[ab]", removal{"xbx", "x", "xaxbx", "xaxbx"}},
		{"xaxbx", "[ab]*", removal{"xaxbx", "xaxbx", "xax", "x"}},
		{"xaxbx", "[!ab]", removal{"axbx", "axbx", "xaxb", "xaxb"}},
		{"x[ax[a", "*[a", removal{"x[a", "", "x[ax", ""}},
		{"x[ax[a", "[a", removal{"x[ax[a", "x[ax[a", "x[ax", "x[ax"}},
		{"aab", "a*b", removal{"", "", "a", ""}},
		{"abb", "a*b", removal{"b", "", "", ""}},
		{"aXbYaXb", "a*b", removal{"YaXb", "", "aXbY", ""}},

		// Escaped and trailing bytes.
		{"*a*", `\*`, removal{"a*", "a*", "*a", "*a"}},
		{"*a*", `\**`, removal{"a*", "", "*a", ""}},
		{"*a*", `*\*`, removal{"a*", "", "*a", ""}},
		{`\a\`, `\`, removal{`a\`, `a\`, `\a`, `\a`}},
		{`\a\`, `\\`, removal{`a\`, `a\`, `\a`, `\a`}},
		{`\a\`, `*\`, removal{`a\`, "", `\a`, ""}},
		{`\a\`, `\\*`, removal{`a\`, "", `\a`, ""}},
		{`a\b`, `\b`, removal{`a\b`, `a\b`, `a\`, `a\`}},
		{"]-[", "[]-[]", removal{"]-[", "]-[", "]-[", "]-["}},
		{"]-[", "[]-]", removal{"-[", "-[", "]-[", "]-["}},
		{"ab[]", "[]", removal{"ab[]", "ab[]", "ab", "ab"}},

		// Bytes, not runes.
		{"éé", "?", removal{"\xa9é", "\xa9é", "é\xc3", "é\xc3"}},
		{"éé", "*é", removal{"é", "", "é", ""}},
		{"a\nb\n", "*\n", removal{"b\n", "", "a\nb", ""}},
		{"\x00\xff\x00", "\x00", removal{"\xff\x00", "\xff\x00", "\x00\xff", "\x00\xff"}},
	} {
		got := removal{pattern.Remove(c.s, c.p, false, false), pattern.Remove(c.s, c.p, false, true), pattern.Remove(c.s, c.p, true, false), pattern.Remove(c.s, c.p, true, true)}
		if got != c.want {
			t.Errorf("K3: %q without %q: %q, want %q", c.s, c.p, got, c.want)
		}
	}
}
