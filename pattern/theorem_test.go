package pattern_test

import (
	"strings"
	"testing"

	"scullion/pattern"
)

// checkEscaped fails unless K4 holds for a string that is escaped, and for some others.
func checkEscaped(t *testing.T, s string, others []string) {
	t.Helper()
	p := pattern.Escape(s)
	if !pattern.Match(p, s) {
		t.Errorf("K4: %q, escaped, doesn't match itself", s)
	}
	for _, other := range others {
		if other != s && pattern.Match(p, other) {
			t.Errorf("K4: %q, escaped, matches %q", s, other)
		}
	}
	if got := pattern.Plain(p); got != s {
		t.Errorf("K4: %q, escaped, is %q plainly", s, got)
	}
	if pattern.Special(p) {
		t.Errorf("K4: %q, escaped, is special", s)
	}
}

func TestEscapedStrings(t *testing.T) {
	all := strs(`*?[]\!-a`, 3)
	for _, s := range all {
		checkEscaped(t, s, all)
	}
	var texts []string
	for seed := range 300 {
		texts = append(texts, anyString(numbers(seed)), anyPattern(numbers(seed)))
	}
	for _, s := range texts {
		checkEscaped(t, s, texts)
	}
	for c := range 256 {
		var others []string
		for other := range 256 {
			others = append(others, string([]byte{byte(other)}), string([]byte{byte(c), byte(other)}))
		}
		checkEscaped(t, string([]byte{byte(c)}), others)
	}
}

// TestEscapedInPatterns has escaped strings with other elements around them.
func TestEscapedInPatterns(t *testing.T) {
	for seed := range 20000 {
		next := numbers(seed)
		s, before, behind := anyString(next), anyString(next), anyString(next)
		p := pattern.Escape(s)
		if !pattern.Match("*"+p+"*", before+s+behind) || !pattern.Match("?"+p+"[a]", "x"+s+"a") {
			t.Fatalf("K4: %q, escaped, doesn't match itself between %q and %q", s, before, behind)
		}
		if got := pattern.Remove(before+s, p, true, false); got != before {
			t.Fatalf("K4: %q without %q at its end: %q", before+s, s, got)
		}
		if got := pattern.Remove(s+behind, p, false, true); got != behind {
			t.Fatalf("K4: %q without %q at its beginning: %q", s+behind, s, got)
		}
	}
}

// endsInEscape tells whether a pattern ends with a backslash that isn't escaped, and would escape what is put behind it.
func endsInEscape(p string) bool {
	return strings.HasSuffix(p, `\`) && pattern.Plain(p+"a") != pattern.Plain(p)+"a"
}

// TestStars puts stars around patterns, and anything around the strings that these match.
func TestStars(t *testing.T) {
	matched := 0
	around := strs("a]", 2)
	for _, p := range strs(`*?[]\!-a`, 4) {
		for _, s := range strs(`[]\a`, 3) {
			if !pattern.Match(p, s) {
				continue
			}
			matched++
			for _, more := range around {
				if !pattern.Match("*"+p, more+s) {
					t.Errorf("K4: *%s doesn't match %q", p, more+s)
				}
				if !endsInEscape(p) && !pattern.Match(p+"*", s+more) {
					t.Errorf("K4: %s* doesn't match %q", p, s+more)
				}
			}
		}
	}
	if matched < 8000 {
		t.Errorf("K4: only %d strings are matched", matched)
	}
}

// TestStarBehindBackslash puts a star behind a backslash, which escapes it then.
func TestStarBehindBackslash(t *testing.T) {
	checkMatches(t, []matchCase{
		{`a\`, list(`a\`), list("a*", "a")},
		{`a\*`, list("a*"), list(`a\`, `a\b`, "ab")},
		{`a\**`, list("a*", "a*b"), list(`a\`, "ab")},
		{`a\\*`, list(`a\`, `a\b`), list("a*", "ab")},
	})
}

// checkRemoved fails unless what is removed, together with what is left, is the string.
func checkRemoved(t *testing.T, s, p string) {
	t.Helper()
	var removed [4]int
	for i := range removed {
		end, most := i&1 != 0, i&2 != 0
		left := pattern.Remove(s, p, end, most)
		gone, whole := strings.CutSuffix(s, left)
		if end {
			gone, whole = strings.CutPrefix(s, left)
		}
		if !whole {
			t.Fatalf("K4: Remove(%q, %q, %t, %t): %q", s, p, end, most, left)
		}
		if gone != "" && !pattern.Match(p, gone) {
			t.Fatalf("K3: Remove(%q, %q, %t, %t) removes %q", s, p, end, most, gone)
		}
		removed[i] = len(gone)
	}
	if removed[0] > removed[2] || removed[1] > removed[3] {
		t.Fatalf("K3: %q and %q: %d bytes are removed", s, p, removed)
	}
	if s != "" && pattern.Match(p, s) != (removed[2] == len(s)) || (removed[2] == len(s)) != (removed[3] == len(s)) {
		t.Fatalf("K3: %q and %q: %d bytes are removed", s, p, removed)
	}
}

func TestRemoved(t *testing.T) {
	for seed := range 50000 {
		next := numbers(seed)
		checkRemoved(t, anyString(next), anyPattern(next))
	}
}
