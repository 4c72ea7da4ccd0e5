package glob

import (
	"maps"
	"slices"
	"strings"
	"testing"

	"scullion/api"
	"scullion/kern"
	"scullion/pattern"
	"scullion/store"
)

// numbers returns a source of numbers from 0 to below n, which begins anew for each seed.
func numbers(seed int) func(n int) int {
	state := uint64(seed)*2862933555777941757 + 3037000493
	return func(n int) int {
		state = state*6364136223846793005 + 1442695040888963407
		return int(state >> 33 % uint64(n))
	}
}

// A piece is a byte of a pattern, with the backslash before it if there is one.
type piece string

// pieces cuts a pattern into pieces.
func pieces(text string) []piece {
	var l []piece
	for text != "" {
		n := 1
		if text[0] == '\\' && len(text) > 1 {
			n = 2
		}
		l, text = append(l, piece(text[:n])), text[n:]
	}
	return l
}

// modelComponents puts the pieces of a pattern together to components.
func modelComponents(text string) []string {
	l := []string{""}
	for _, p := range pieces(text) {
		if strings.HasSuffix(string(p), "/") {
			l = append(l, "")
		} else {
			l[len(l)-1] += string(p)
		}
	}
	return l
}

// modelPlain returns a pattern without the backslashes of its pieces.
func modelPlain(text string) string {
	plain := ""
	for _, p := range pieces(text) {
		plain += string(p[len(p)-1:])
	}
	return plain
}

// modelSpecial tells whether one of the pieces is special.
func modelSpecial(text string) bool {
	return slices.ContainsFunc(pieces(text), func(p piece) bool { return p == "*" || p == "?" || p == "[" })
}

// modelNames returns what a component adds to a path.
func modelNames(p *kern.Proc, path, component string) []string {
	if !modelSpecial(component) {
		return list(modelPlain(component))
	}
	if path == "" {
		path = "."
	}
	l, err := p.List(path)
	if err != api.OK {
		return nil
	}
	return slices.DeleteFunc(l, func(name string) bool {
		hidden := len(name) > 0 && name[0] == '.' && modelPlain(component)[0] != '.'
		return hidden || !pattern.Match(component, name)
	})
}

// modelGlob lets all paths grow by a component, and then by the next one.
func modelGlob(p *kern.Proc, text string) []string {
	if !modelSpecial(text) || len(text) > 400 {
		return list(modelPlain(text))
	}
	paths := list("")
	for i, component := range modelComponents(text) {
		var longer []string
		for _, path := range paths {
			if i > 0 {
				path += "/"
			}
			for _, name := range modelNames(p, path, component) {
				longer = append(longer, path+name)
			}
		}
		paths = longer
	}
	paths = slices.DeleteFunc(paths, func(path string) bool {
		_, e, err := p.Find(path, false)
		return err != api.OK || e.Kind == api.None
	})
	if len(paths) == 0 {
		return list(modelPlain(text))
	}
	return paths
}

// seen returns what a call reads of a store, and what it writes.
func seen(s *store.Store, call func()) (reads, writes []api.Touch) {
	s.Begin()
	call()
	return s.End()
}

// checkModel holds Glob against the model, in its result and in what it reads, and holds the theorem for it.
func checkModel(t *testing.T, s *store.Store, cwd, text string) {
	t.Helper()
	var got, want []string
	p := kern.New(s, cwd, 0)
	reads, writes := seen(s, func() { got = Glob(p, text) })
	modelReads, _ := seen(s, func() { want = modelGlob(p, text) })
	if !slices.Equal(got, want) {
		t.Fatalf("O1: in %q of %q, Glob(%q): %q, not %q", cwd, s.Paths(), text, got, want)
	}
	if !slices.Equal(reads, modelReads) || len(writes) > 0 || p.Pwd() != kern.New(s, cwd, 0).Pwd() {
		t.Fatalf("O1: in %q of %q, Glob(%q) reads %+v, not %+v, and writes %+v", cwd, s.Paths(), text, reads, modelReads, writes)
	}
	checkTheorem(t, p, text, got)
}

// checkTheorem holds that the paths exist, but for Plain of the pattern, and come once.
func checkTheorem(t *testing.T, p *kern.Proc, text string, got []string) {
	t.Helper()
	came := map[string]int{}
	for _, path := range got {
		came[path]++
		_, e, err := p.Find(path, false)
		if there := err == api.OK && e.Kind != api.None; came[path] > 1 || !there && path != pattern.Plain(text) {
			t.Fatalf("O2: Glob(%q): %q, with %q", text, got, path)
		}
	}
	if len(got) == 0 {
		t.Fatalf("O2: Glob(%q) is empty", text)
	}
}

// TestShortPatterns has all patterns of up to five bytes of those that matter.
func TestShortPatterns(t *testing.T) {
	s := stored(tree{
		"/a": dir(7), "/a/a": dir(7), "/a/a/.a": file(6), "/a/.a": file(6), "/a/]": file(6), "/.a": dir(7), "/.a/a": file(6), "/[a": dir(7), "/[a/a]": file(6),
		"/*": link("a"), `/\`: dir(7), `/\/a`: file(6), "/[a]": file(6), "/aa": file(6), "/]": link("none"),
	})
	const bytes = `a./\*?[]`
	for n := range 6 {
		text := make([]byte, n)
		var extend func(i int)
		extend = func(i int) {
			if i == n {
				checkModel(t, s, "", string(text))
				return
			}
			for k := range len(bytes) {
				text[i] = bytes[k]
				extend(i + 1)
			}
		}
		extend(0)
	}
}

// anyOf returns one of some values.
func anyOf[T any](next func(int) int, l ...T) T { return l[next(len(l))] }

// anyTree returns a tree in which most places have directories above them.
func anyTree(next func(int) int) tree {
	l := tree{}
	for range 3 + next(15) {
		parent := ""
		if places := slices.Sorted(maps.Keys(l)); len(places) > 0 && next(3) > 0 {
			parent = anyOf(next, places...)
		}
		name := anyOf(next, "a", "b", "c", "ab", "ba", ".a", ".b", "a", "b", "d", "*", "a*", `\`, "[a]", "]", "é", "a b", "-", "", ".", "..", "\xff", strings.Repeat("a", 33))
		l[parent+"/"+name] = anyEntry(next)
	}
	return l
}

// anyEntry returns a directory, a file or a link.
func anyEntry(next func(int) int) api.Entry {
	switch next(8) {
	case 0:
		return file(next(8))
	case 1, 2:
		return link(anyOf(next, "a", "b", "..", ".", "/", "/a", "a/", "../b", "none", "", "a/a"))
	case 3:
		return dir(next(8))
	}
	return dir(7)
}

// anyPattern returns a pattern with up to five components.
func anyPattern(next func(int) int) string {
	var l []string
	for range 1 + next(5) {
		text := ""
		for range next(4) {
			text += anyOf(next, "*", "*", "?", "a", "b", ".", ".", `\a`, `\.`, `\*`, `\\`, `\`, "[ab]", "[!a]", "[a-c]", "[", "]", "[.]", `[\]]`, "-", "\xc3", "..")
		}
		l = append(l, text, anyOf(next, "/", "/", "/", `\/`, "//", `\\/`))
	}
	if next(4) > 0 {
		l = l[:len(l)-1]
	}
	return strings.Join(l, "")
}

func TestAnyPatterns(t *testing.T) {
	for seed := range 6000 {
		next := numbers(seed)
		s := stored(anyTree(next))
		places := append(s.Paths(), "", "", "", "/none", "rel")
		for range 20 {
			checkModel(t, s, anyOf(next, places...), anyPattern(next))
		}
	}
}

// TestAnyBytes has patterns of any bytes.
func TestAnyBytes(t *testing.T) {
	for seed := range 3000 {
		next := numbers(seed)
		var text []byte
		for range next(500) {
			text = append(text, byte(next(256)))
		}
		l := anyTree(next)
		for _, name := range strings.Split(string(text), "/") {
			l["/"+name] = anyEntry(next)
		}
		checkModel(t, stored(l), "", string(text))
		checkModel(t, stored(l), "", string(text[:min(len(text), 1+next(4))])+"*")
	}
}

// TestEscaped has strings that are escaped: they are returned as they were, whether there is such a path or not.
func TestEscaped(t *testing.T) {
	checkEscaped := func(s *store.Store, text string) {
		t.Helper()
		p := kern.New(s, "", 0)
		var got []string
		reads, _ := seen(s, func() { got = Glob(p, pattern.Escape(text)) })
		if !slices.Equal(got, list(text)) || len(reads) > 0 {
			t.Fatalf("O2: Glob of %q, escaped: %q, with %+v read", text, got, reads)
		}
	}
	s := stored(names())
	for _, text := range list("", "a", "*", "a*", "none", "/", "a/b", `\`, `\*`, "[ab]", "?/?", "é", "\x00", strings.Repeat("*/", 10000)) {
		checkEscaped(s, text)
	}
	for seed := range 3000 {
		next := numbers(seed)
		checkEscaped(stored(anyTree(next)), anyPattern(next))
	}
}

// TestEscapedInPatterns puts escaped strings before and behind a star: the names that have them there are returned.
func TestEscapedInPatterns(t *testing.T) {
	l := list("*", "**", "*x", "[*]x", "[x]", "a*b", "a?b", "ab", `b\`, `b\*`, "é", "éa")
	s := stored(files(l...))
	for _, name := range l {
		for i := range len(name) {
			p := kern.New(s, "", 0)
			behind := slices.DeleteFunc(slices.Clone(l), func(other string) bool { return !strings.HasPrefix(other, name[:i+1]) })
			if got := Glob(p, pattern.Escape(name[:i+1])+"*"); !slices.Equal(got, slices.Sorted(slices.Values(behind))) {
				t.Errorf("O1: Glob of %q, escaped, and a star: %q, not %q", name[:i+1], got, behind)
			}
			before := slices.DeleteFunc(slices.Clone(l), func(other string) bool { return !strings.HasSuffix(other, name[i:]) })
			if got := Glob(p, "*"+pattern.Escape(name[i:])); !slices.Equal(got, slices.Sorted(slices.Values(before))) {
				t.Errorf("O1: Glob of a star and %q, escaped: %q, not %q", name[i:], got, before)
			}
		}
	}
}
