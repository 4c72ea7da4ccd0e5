package glob

import (
	"fmt"
	"runtime/debug"
	"slices"
	"strings"
	"testing"

	"scullion/api"
	"scullion/kern"
)

// TestPatternsUpToTheLimit has patterns with up to 400 bytes, and with more, which only lose their backslashes.
func TestPatternsUpToTheLimit(t *testing.T) {
	l := files("a", "b", "*")
	stars := func(n int) string { return strings.Repeat("*", n) }
	escaped := strings.Repeat(`\*`, 199)
	checkGlob(t, l, []globCase{
		{"", stars(399), list("*", "a", "b")},
		{"", stars(400), list("*", "a", "b")},
		{"", stars(401), list(stars(401))},
		{"", stars(10000), list(stars(10000))},
		{"", `\a` + stars(398), list("a")},
		{"", `\a` + stars(399), list("a" + stars(399))},
		{"", stars(398) + `\*`, list("*")},
		{"", stars(399) + `\*`, list(stars(400))},
		{"", escaped + "**", list(strings.Repeat("*", 201))},
		{"", escaped + "***", list(strings.Repeat("*", 202))},
		{"", escaped + `\*`, list(strings.Repeat("*", 200))},
		{"", escaped + `\*\*`, list(strings.Repeat("*", 201))},
		// Bytes are counted, those of a letter one by one.
		{"", "[" + strings.Repeat("é", 198) + "a]*", list("a")},
		{"", "[" + strings.Repeat("é", 199) + "a]", list("[" + strings.Repeat("é", 199) + "a]")},
		{"", strings.Repeat(`\/`, 199) + "?*", list(strings.Repeat("/", 199)+"*", strings.Repeat("/", 199)+"a", strings.Repeat("/", 199)+"b")},
		{"", strings.Repeat(`\/`, 199) + "?**", list(strings.Repeat("/", 199) + "?**")},
	})
}

// TestPathsUpToTheLimit has paths with up to 200 bytes, and with more, at which there is nothing.
func TestPathsUpToTheLimit(t *testing.T) {
	l := tree{"/a": file(6), "/bb": file(6), "/d": dir(7), "/d/e": file(6)}
	dots := func(n int) string { return strings.Repeat("./", n) }
	checkGlob(t, l, []globCase{
		{"", dots(99) + "[ab]*", list(dots(99)+"a", dots(99)+"bb")},
		{"", "/" + dots(99) + "[ab]*", list("/" + dots(99) + "a")},
		{"", dots(100) + "*", list(dots(100) + "*")},
		{"", "?" + strings.Repeat("/", 199), list("d" + strings.Repeat("/", 199))},
		{"", "?" + strings.Repeat("/", 200), list("?" + strings.Repeat("/", 200))},
		{"", "?" + strings.Repeat("/", 198) + "e", list("d" + strings.Repeat("/", 198) + "e")},
		{"", "?" + strings.Repeat("/", 198) + "*", list("d" + strings.Repeat("/", 198) + "e")},
		{"", "?" + strings.Repeat("/", 199) + "e", list("?" + strings.Repeat("/", 199) + "e")},
		{"", "?" + strings.Repeat("/", 199) + "*", list("?" + strings.Repeat("/", 199) + "*")},
		{"", "?" + strings.Repeat("/", 399), list("?" + strings.Repeat("/", 399))},
	})
}

func TestNamesUpToTheLimit(t *testing.T) {
	good, bad := strings.Repeat("n", 32), strings.Repeat("n", 33)
	l := tree{"/" + good: dir(7), "/" + bad: dir(7), "/" + good + "/x": file(6), "/" + bad + "/x": file(6)}
	checkGlob(t, l, []globCase{
		{"", "n*", list(good)},
		{"", "*/x", list(good + "/x")},
		{"", "*/*", list(good + "/x")},
		{"", bad + "*", list(bad + "*")},
		{"", bad + "/*", list(bad + "/*")},
		{"", good + "*", list(good)},
	})
}

// TestDeepPatterns has as many components as a pattern may have, on a small stack.
func TestDeepPatterns(t *testing.T) {
	defer debug.SetMaxStack(debug.SetMaxStack(1 << 20))
	l := tree{"/a": file(6)}
	place := ""
	for range 99 {
		place += "/d"
		l[place] = dir(7)
	}
	l[place+"/b"] = file(6)
	most := strings.Repeat("*/", 199)
	checkGlob(t, l, []globCase{
		{"", strings.Repeat("*/", 99) + "*", list(place[1:] + "/b")},
		{"", strings.Repeat("?/", 99), list(place[1:] + "/")},
		{"", strings.Repeat("*/", 100), list(strings.Repeat("*/", 100))},
		{"", most, list(most)},
		{"", strings.Repeat("/", 199) + "*", list(strings.Repeat("/", 199)+"a", strings.Repeat("/", 199)+"d")},
		{"", strings.Repeat("/", 399) + "*", list(strings.Repeat("/", 399) + "*")},
		{"", "*" + strings.Repeat("/", 399), list("*" + strings.Repeat("/", 399))},
		{"", strings.Repeat("../", 64) + "d/?", list(strings.Repeat("../", 64) + "d/d")},
	})
}

// TestWideDirectories has directories with many names.
func TestWideDirectories(t *testing.T) {
	l := tree{}
	var flat, inner []string
	for i := range 60 {
		top := fmt.Sprintf("d%04d", i)
		l["/"+top] = dir(7)
		for k := range 20 {
			name := fmt.Sprintf("f%02d", k)
			l["/"+top+"/"+name] = file(6)
			inner = append(inner, top+"/"+name)
		}
	}
	for i := range 3000 {
		name := fmt.Sprintf("f%04d", i)
		l["/"+name] = file(6)
		flat = append(flat, name)
	}
	checkGlob(t, l, []globCase{
		{"", "f*", flat},
		{"", "*/*", inner},
		{"", "d*/f19", slices.DeleteFunc(slices.Clone(inner), func(s string) bool { return !strings.HasSuffix(s, "/f19") })},
	})
}

// TestReads holds which entries and names are read: those that the listing of directories and the finding of paths read.
func TestReads(t *testing.T) {
	l := tree{"/a": dir(7), "/a/x": file(6), "/a/.h": file(6), "/b": file(6), "/.c": file(6), "/m": dir(3), "/m/x": file(6), "/l": link("a"), "/o": file(6)}
	for _, c := range []struct{ cwd, pattern, reads string }{
		{"", "a", ""},
		{"", `\*`, ""},
		{"", "none/x", ""},
		{"", strings.Repeat("*", 401), ""},
		{"", "*", "- -* /a /b /l /m /o"},
		{"", "b*", "- -* /b"},
		{"", "z*", "- -*"},
		{"", ".*", "- -* /.c"},
		{"", "a/*", "- /a /a* /a/x"},
		{"", "l/*", "- /a /a* /a/x /l"},
		{"", "l*", "- -* /l"},
		{"", "l*/", "- -* /a /l"},
		{"", "m/*", "- /m"},
		{"", "?/x", "- -* /a /a/x /b /l /m /m/x /o"},
		{"", "b/*", "- /b"},
		{"", "none/*", "- /none"},
		{"", "[ab]/none/*", "- -* /a /a/none /b"},
		{"", "a/x*/y", "- /a /a* /a/x"},
		{"/a", "*", "/a /a* /a/x"},
		{"/a", "/b*", "- -* /b"},
		{"/a", "../?", "- -* /a /b /l /m /o"},
		{"/none", "*", "/none"},
	} {
		s := stored(l)
		p := kern.New(s, c.cwd, 0)
		s.Begin()
		Glob(p, c.pattern)
		reads, writes := s.End()
		if got := placesOf(reads); got != c.reads || len(writes) != 0 {
			t.Errorf("O1: in %q, Glob(%q) reads %q and writes %q, not %q and nothing", c.cwd, c.pattern, got, placesOf(writes), c.reads)
		}
	}
}

// placesOf returns the places of some touches as one text: with a space between them, `-` for the root, and `place*` for the names of a place.
func placesOf(l []api.Touch) string {
	var places []string
	for _, t := range l {
		place := t.Path
		if place == "" {
			place = "-"
		}
		if t.Names {
			place += "*"
		}
		places = append(places, place)
	}
	return strings.Join(places, " ")
}

// TestBreaks ends the search after each number of paths: no more of them come.
func TestBreaks(t *testing.T) {
	s := search{kern.New(stored(deep()), "", 0)}
	for _, pattern := range list("*", "*/*", "?/d/*", "a/x", "[ab]/[xy]", "*/", "a") {
		all := slices.Collect(s.paths("", components(pattern)))
		if len(all) == 0 {
			t.Errorf("O1: no path for %q", pattern)
		}
		for n := range all {
			var got []string
			for path := range s.paths("", components(pattern)) {
				got = append(got, path)
				if len(got) > n {
					break
				}
			}
			if !slices.Equal(got, all[:n+1]) {
				t.Errorf("O1: the first paths of %q: %q, not %q", pattern, got, all[:n+1])
			}
		}
	}
}

// TestSameProcess holds that a process and its tree stay as they are, and that each call looks anew.
func TestSameProcess(t *testing.T) {
	s := stored(deep())
	p := kern.New(s, "/a", 0)
	before := s.Paths()
	first := Glob(p, "*")
	if got := Glob(p, "../*/x"); p.Pwd() != "/a" || !slices.Equal(s.Paths(), before) || len(got) != 3 {
		t.Errorf("O1: Glob leaves %q with %q and returns %q", p.Pwd(), s.Paths(), got)
	}
	clear(first)
	if got := Glob(p, "*"); !slices.Equal(got, list("d", "x", "y")) {
		t.Errorf("O1: Glob(*) again: %q", got)
	}
	p.Write("w", "", false)
	p.Unlink("x")
	if got := Glob(p, "*"); !slices.Equal(got, list("d", "w", "y")) {
		t.Errorf("O1: Glob(*) after changes: %q", got)
	}
	p.Chdir("d")
	if got := Glob(p, "*"); !slices.Equal(got, list("z")) {
		t.Errorf("O1: Glob(*) in another directory: %q", got)
	}
}
