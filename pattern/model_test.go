package pattern_test

import (
	"strings"
	"testing"

	"scullion/pattern"
)

// model tells whether a pattern matches a string, by the elements that the pattern begins with, one after the other.
func model(p, s string) bool {
	if p == "" {
		return s == ""
	}
	if p[0] == '*' {
		for i := range len(s) + 1 {
			if model(p[1:], s[i:]) {
				return true
			}
		}
		return false
	}
	size, in := modelByte(p)
	return s != "" && in(s[0]) && model(p[size:], s[1:])
}

// modelByte returns the length of the element that a pattern begins with, and what tells whether it matches a byte.
func modelByte(p string) (size int, in func(c byte) bool) {
	switch {
	case p[0] == '?':
		return 1, func(byte) bool { return true }
	case p[0] == '[':
		if length, in := modelBracket(p[1:]); length > 0 {
			return length + 1, in
		}
		return 1, func(c byte) bool { return c == '[' }
	}
	want, size := unescaped(p)
	return size, func(c byte) bool { return c == want }
}

// unescaped returns the byte that a pattern begins with, or the one behind a backslash, and the length of both.
func unescaped(p string) (c byte, size int) {
	if p[0] == '\\' && len(p) > 1 {
		return p[1], 2
	}
	return p[0], 1
}

// modelBracket returns the length of the bracket expression that a text begins with, up to its closing byte, or 0 if it begins with none, and what tells whether a byte is in it.
func modelBracket(text string) (length int, in func(c byte) bool) {
	rest, not := strings.CutPrefix(text, "!")
	var ranges [][2]byte
	for rest != "" {
		if rest[0] == ']' && len(ranges) > 0 {
			return len(text) - len(rest) + 1, func(c byte) bool {
				for _, r := range ranges {
					if r[0] <= c && c <= r[1] {
						return !not
					}
				}
				return not
			}
		}
		first, size := unescaped(rest)
		rest = rest[size:]
		last := first
		if len(rest) > 1 && rest[0] == '-' && rest[1] != ']' {
			last, size = unescaped(rest[1:])
			rest = rest[1+size:]
		}
		ranges = append(ranges, [2]byte{first, last})
	}
	return 0, nil
}

// modelRemove returns a string without the part that is to be removed, tried from the length that is taken first.
func modelRemove(s, p string, end, most bool) string {
	for i := range len(s) + 1 {
		length := i
		if most {
			length = len(s) - i
		}
		if !end && model(p, s[:length]) {
			return s[length:]
		}
		if end && model(p, s[len(s)-length:]) {
			return s[:len(s)-length]
		}
	}
	return s
}

// modelPlain returns what Plain does, and whether the pattern is special.
func modelPlain(p string) (plain string, special bool) {
	for p != "" {
		c, size := unescaped(p)
		special = special || size == 1 && strings.IndexByte("*?[", c) >= 0
		plain += p[size-1 : size]
		p = p[size:]
	}
	return plain, special
}

// checkMatch fails unless Match returns what the model does.
func checkMatch(t *testing.T, p, s string) {
	t.Helper()
	if got, want := pattern.Match(p, s), model(p, s); got != want {
		t.Fatalf("K1: Match(%q, %q): %t", p, s, got)
	}
}

// checkPattern fails unless Plain and Special return what the model does.
func checkPattern(t *testing.T, p string) {
	t.Helper()
	plain, special := modelPlain(p)
	if got := pattern.Plain(p); got != plain {
		t.Fatalf("K2: Plain(%q): %q, want %q", p, got, plain)
	}
	if got := pattern.Special(p); got != special {
		t.Fatalf("K2: Special(%q): %t", p, got)
	}
}

// checkRemove fails unless Remove returns what the model does.
func checkRemove(t *testing.T, s, p string) {
	t.Helper()
	for i := range 4 {
		end, most := i&1 != 0, i&2 != 0
		if got, want := pattern.Remove(s, p, end, most), modelRemove(s, p, end, most); got != want {
			t.Fatalf("K3: Remove(%q, %q, %t, %t): %q, want %q", s, p, end, most, got, want)
		}
	}
}

// strs returns all strings of so many bytes at most, each of which is one of the given.
func strs(bytes string, most int) []string {
	l := []string{""}
	for from := 0; most > 0; most-- {
		to := len(l)
		for _, s := range l[from:to] {
			for i := range len(bytes) {
				l = append(l, s+bytes[i:i+1])
			}
		}
		from = to
	}
	return l
}

func TestShortPatterns(t *testing.T) {
	const bytes = `*?[]\!-ab`
	all := strs(bytes, 2)
	for _, p := range strs(bytes, 5) {
		checkPattern(t, p)
		for _, s := range all {
			checkMatch(t, p, s)
		}
	}
}

func TestShortBrackets(t *testing.T) {
	const bytes = `]\!-a[`
	for _, p := range strs(bytes, 6) {
		checkMatch(t, "["+p, "["+p)
		for i := range len(bytes) {
			checkMatch(t, "["+p, bytes[i:i+1])
		}
	}
}

func TestShortStars(t *testing.T) {
	all := strs("ab", 6)
	for _, p := range strs("*?ab", 5) {
		for _, s := range all {
			checkMatch(t, p, s)
		}
	}
}

func TestShortRemovals(t *testing.T) {
	all := strs("ab[", 4)
	for _, p := range strs(`*a\[]`, 4) {
		for _, s := range all {
			checkRemove(t, s, p)
		}
	}
}

// numbers returns a function that returns the same sequence of numbers in every run.
func numbers(seed int) func(below int) int {
	state := uint64(seed)
	return func(below int) int {
		state = state*6364136223846793005 + 1442695040888963407
		return int(state>>33) % below
	}
}

// text returns a text of some pieces.
func text(next func(int) int, most int, pieces []string) string {
	var b strings.Builder
	for range next(most + 1) {
		b.WriteString(pieces[next(len(pieces))])
	}
	return b.String()
}

// anyPattern returns a pattern of a few pieces.
func anyPattern(next func(int) int) string {
	return text(next, 8, []string{"*", "*", "?", "a", "b", "ab", "c", "\\", `\*`, `\\`, `\]`, "[", "[!", "[]", "]", "-", "!", "[a-b]", "[!a]", "[!b-]", "[\\]c]", ".", "/", "\n", "é", "\xff", "\x00", "[\x80-\xff]"})
}

// anyString returns a string of a few pieces.
func anyString(next func(int) int) string {
	return text(next, 10, []string{"a", "a", "b", "b", "ab", "c", `\`, "*", "?", "[", "]", "-", "!", ".", "/", "\n", "é", "\xff", "\x00"})
}

func TestAnyPatterns(t *testing.T) {
	matched := 0
	for seed := range 100000 {
		next := numbers(seed)
		p, s := anyPattern(next), anyString(next)
		checkPattern(t, p)
		checkMatch(t, p, s)
		checkRemove(t, s, p)
		if model(p, s) {
			matched++
		}
	}
	if matched < 2000 {
		t.Errorf("K1: only %d of the patterns match", matched)
	}
}

// TestAnyBytes has patterns and strings of any bytes.
func TestAnyBytes(t *testing.T) {
	for seed := range 5000 {
		next := numbers(seed)
		var pieces []string
		for range 6 {
			pieces = append(pieces, string([]byte{byte(next(256))}))
		}
		p := text(next, 6, append(pieces, "*", "?", "[", "]", "[!", "-", `\`))
		s := text(next, 6, pieces)
		checkPattern(t, p)
		checkMatch(t, p, s)
		checkRemove(t, s, p)
		for c := range 256 {
			checkMatch(t, "["+p+"]", string([]byte{byte(c)}))
		}
	}
}

// TestAgain has no result that depends on earlier calls.
func TestAgain(t *testing.T) {
	type results struct {
		match, special         bool
		escaped, plain, remove string
	}
	of := func(seed int) results {
		next := numbers(seed)
		p, s := anyPattern(next), anyString(next)
		return results{pattern.Match(p, s), pattern.Special(p), pattern.Escape(s), pattern.Plain(p), pattern.Remove(s, p, seed%2 == 0, seed%3 == 0)}
	}
	var all []results
	for seed := range 1000 {
		all = append(all, of(seed))
	}
	for seed := len(all) - 1; seed >= 0; seed-- {
		if got := of(seed); got != all[seed] {
			t.Errorf("R4: %d: %+v, and %+v before", seed, got, all[seed])
		}
	}
}
