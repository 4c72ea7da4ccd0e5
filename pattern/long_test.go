package pattern_test

import (
	"runtime/debug"
	"strings"
	"testing"

	"scullion/pattern"
)

// many is a number of bytes that is too great for a call for each of them.
const many = 1000000

// shortStack leaves little room for calls while a test runs.
func shortStack(t *testing.T) {
	room := debug.SetMaxStack(1 << 20)
	t.Cleanup(func() { debug.SetMaxStack(room) })
}

// longCase is a pattern and a string, and whether the pattern matches it.
type longCase struct {
	p, s string
	want bool
}

func checkLong(t *testing.T, cases []longCase) {
	t.Helper()
	for _, c := range cases {
		if got := pattern.Match(c.p, c.s); got != c.want {
			t.Errorf("K1: Match of %d bytes, %.20q, and of %d bytes, %.20q: %t", len(c.p), c.p, len(c.s), c.s, got)
		}
	}
}

func TestLongPatterns(t *testing.T) {
	shortStack(t)
	a := strings.Repeat("a", many)
	open := strings.Repeat("[", many)
	checkLong(t, []longCase{
		{a, a, true},
		{a, a[1:], false},
		{a, a + "a", false},
		{a[1:] + "b", a, false},
		{"*", a, true},
		{"*b", a, false},
		{"*a", a, true},
		{"*a*b*", a + "b" + a, true},
		{strings.Repeat("*", many), "", true},
		{strings.Repeat("*", many), a, true},
		{strings.Repeat("*", many) + "b", a, false},
		{strings.Repeat("?", many), a, true},
		{strings.Repeat("?", many) + "?", a, false},
		{strings.Repeat("?*", many), a, true},
		{strings.Repeat("*?", many) + "?", a, false},
		{strings.Repeat(`\a`, many), a, true},
		{strings.Repeat(`\\`, many), strings.Repeat(`\`, many), true},
		{strings.Repeat(`\\`, many) + `\`, strings.Repeat(`\`, many) + `\`, true},
		{open, open, true},
		{open, open + "[", false},
		{open + "]", "[", true},
		{open + "]", "]", false},
		{"[" + a + "-c]", "b", true},
		{"[!" + a + "-c]", "b", false},
		{"[" + a, "[" + a, true},
		{strings.Repeat("[a]", 10000), a[:10000], true},
		{strings.Repeat("[!b]", 10000), a[1:10000], false},
		{strings.Repeat("[][]", many/4), strings.Repeat("[]", many/8), true},
		{strings.Repeat("[][]", many/4), strings.Repeat("[]", many), false},
		{strings.Repeat(`[\]`, many), strings.Repeat("[]", many), true},
		{strings.Repeat("[!", many), strings.Repeat("[!", many), true},
	})
}

// TestManyStars has patterns for which it takes too long to try all strings that each star matches.
func TestManyStars(t *testing.T) {
	a := strings.Repeat("a", 2000)
	for _, p := range []string{"*a", "a*", "*?", "*[a]", "**a", "*aa*"} {
		stars := strings.Repeat(p, 100)
		checkLong(t, []longCase{
			{stars + "b", a, false},
			{"b" + stars, a, false},
			{stars + "b*", a + "c" + a, false},
			{stars + "*", a + "c" + a, true},
			{stars + "*b", a + "b", true},
		})
		for _, end := range []bool{false, true} {
			if got := pattern.Remove(a, "b"+stars+"b", end, true); got != a {
				t.Errorf("K3: %d bytes are left, want %d", len(got), len(a))
			}
		}
	}
}

func TestLongRemovals(t *testing.T) {
	shortStack(t)
	a := strings.Repeat("a", many)
	for _, c := range []struct {
		s, p                                   string
		prefix, longPrefix, suffix, longSuffix int // the bytes that are left
	}{
		{a, "*b", many, many, many, many},
		{a, "b*", many, many, many, many},
		{a, "*", many, 0, many, 0},
		{a, "*a", many - 1, 0, many - 1, 0},
		{a, "a*a", many - 2, 0, many - 2, 0},
		{a, a, 0, 0, 0, 0},
		{a, a[1:], 1, 1, 1, 1},
		{a, a + "a", many, many, many, many},
		{a + "b" + a, "*b", many, many, 2*many + 1, 2*many + 1},
		{a + "b" + a, "b*", 2*many + 1, 2*many + 1, many, many},
		{a + "b" + a, "*b*", many, 0, many, 0},
		{strings.Repeat("ab", many), "*b", 2*many - 2, 0, 2*many - 1, 0},
		{strings.Repeat("ab", many), "a*", 2*many - 1, 0, 2*many - 2, 0},
	} {
		got := [4]int{len(pattern.Remove(c.s, c.p, false, false)), len(pattern.Remove(c.s, c.p, false, true)), len(pattern.Remove(c.s, c.p, true, false)), len(pattern.Remove(c.s, c.p, true, true))}
		if want := [4]int{c.prefix, c.longPrefix, c.suffix, c.longSuffix}; got != want {
			t.Errorf("K3: %d bytes, %.20q, without %d bytes, %.20q: %d are left, want %d", len(c.s), c.s, len(c.p), c.p, got, want)
		}
	}
}

func TestLongEscaped(t *testing.T) {
	shortStack(t)
	s := strings.Repeat(`a\*[`, many)
	p := pattern.Escape(s)
	if len(p) != 2*len(s) || pattern.Plain(p) != s || pattern.Special(p) || !pattern.Match(p, s) || pattern.Match(p, s+"a") {
		t.Errorf("K4: %d bytes, escaped: %d bytes, or another pattern", len(s), len(p))
	}
	if !pattern.Special(p+"*") || pattern.Special(p+`\*`) {
		t.Errorf("K2: a star behind %d bytes", len(p))
	}
}
