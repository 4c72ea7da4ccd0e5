package glob

import (
	"slices"
	"strings"
	"testing"

	"scullion/api"
	"scullion/kern"
	"scullion/store"
)

// A tree is what is at the places of a store, but for the root.
type tree map[string]api.Entry

func file(mode int) api.Entry { return api.Entry{Kind: api.File, Mode: mode} }

func dir(mode int) api.Entry { return api.Entry{Kind: api.Dir, Mode: mode} }

func link(data string) api.Entry { return api.Entry{Kind: api.Link, Mode: 7, Data: data} }

// files returns a tree with files in the root.
func files(names ...string) tree {
	l := tree{}
	for _, name := range names {
		l["/"+name] = file(6)
	}
	return l
}

// stored returns a store with the given tree.
func stored(l tree) *store.Store {
	s := store.New()
	for place, e := range l {
		s.Put(place, e)
	}
	return s
}

func list(l ...string) []string { return l }

// globCase is a working directory, a pattern and what Glob returns.
type globCase struct {
	cwd, pattern string
	want         []string
}

func checkGlob(t *testing.T, l tree, cases []globCase) {
	t.Helper()
	for _, c := range cases {
		if got := Glob(kern.New(stored(l), c.cwd, 0), c.pattern); !slices.Equal(got, c.want) {
			t.Errorf("O1: in %q, Glob(%q): %q, not %q", c.cwd, c.pattern, got, c.want)
		}
	}
}

// names is a tree with names of many kinds in the root.
func names() tree {
	return files("a", "ab", "abc", "b", "B", "*", "a*", "?", "[", "[ab]", "]", `\`, `a\`, `\*`, "-", "!", " ", "a b", "\x00", "\xff", "é", ".", ".a", ".b", "..", "..a", "~")
}

func TestNotSpecial(t *testing.T) {
	checkGlob(t, names(), []globCase{
		{"", "", list("")},
		{"", "a", list("a")},
		{"", "none", list("none")},
		{"", ".a", list(".a")},
		{"", "/a", list("/a")},
		{"", "/none/", list("/none/")},
		{"", `\*`, list("*")},
		{"", `\?\[`, list("?[")},
		{"", `a\/b`, list("a/b")},
		{"", `\a\b`, list("ab")},
		{"", `\\`, list(`\`)},
		{"", `\\\*`, list(`\*`)},
		{"", `\`, list(`\`)},
		{"", `a\`, list(`a\`)},
		{"", `\\\`, list(`\\`)},
		{"", "]!-", list("]!-")},
		{"", "\\\xc3\\\xa9", list("é")},
		{"/none", "a//b", list("a//b")},
	})
}

func TestNames(t *testing.T) {
	checkGlob(t, names(), []globCase{
		{"", "*", list("\x00", " ", "!", "*", "-", "?", "B", "[", "[ab]", `\`, `\*`, "]", "a", "a b", "a*", `a\`, "ab", "abc", "b", "~", "é", "\xff")},
		{"", "a*", list("a", "a b", "a*", `a\`, "ab", "abc")},
		{"", "*b", list("a b", "ab", "b")},
		{"", "a*c", list("abc")},
		{"", "?", list("\x00", " ", "!", "*", "-", "?", "B", "[", `\`, "]", "a", "b", "~", "\xff")},
		{"", "??", list(`\*`, "a*", `a\`, "ab", "é")},
		{"", "a?", list("a*", `a\`, "ab")},
		{"", "????*", list("[ab]")},
		{"", "[ab]", list("a", "b")},
		{"", "[!ab]", list("\x00", " ", "!", "*", "-", "?", "B", "[", `\`, "]", "~", "\xff")},
		{"", "[a-b]*", list("a", "a b", "a*", `a\`, "ab", "abc", "b")},
		{"", "[]]", list("]")},
		{"", `[\*]`, list("*")},
		{"", `a\**`, list("a*")},
		{"", `\**`, list("*")},
		{"", `\*[*]`, list("*[*]")},
		{"", `\\[*]`, list(`\*`)},
		{"", `?\*`, list(`\*`, "a*")},
		{"", `*\?`, list("?")},
		{"", `*\]`, list("[ab]", "]")},
		{"", `\a*\b`, list("a b", "ab")},
		{"", "\\\xc3*", list("é")},
		{"", "*\xa9", list("é")},
		// A `[` that begins no bracket expression matches itself, but is Special.
		{"", "[", list("[")},
		{"", "[[]ab]", list("[ab]")},
		{"", "[a", list("[a")},
		// A backslash at the end is no less than a byte.
		{"", `*\`, list(`\`, `a\`)},
		{"", `?\`, list(`a\`)},
		{"", `*\\`, list(`\`, `a\`)},
	})
}

// TestNoPath has patterns without a path: only the backslashes that escape go.
func TestNoPath(t *testing.T) {
	checkGlob(t, names(), []globCase{
		{"", "x*", list("x*")},
		{"", `\x*`, list("x*")},
		{"", `x\**`, list("x**")},
		{"", `\\\\*`, list(`\\*`)},
		{"", `x*\`, list(`x*\`)},
		{"", `x*\\`, list(`x*\`)},
		{"", "*/x", list("*/x")},
		{"", `x\/*`, list("x/*")},
		{"", "[b-a]", list("[b-a]")},
		{"", "[!]x", list("[!]x")},
		{"", "[x", list("[x")},
		{"", "????????", list("????????")},
		{"", "*//*", list("*//*")},
		{"/none", "*", list("*")},
		{"/none", "[ab]", list("[ab]")},
	})
	checkGlob(t, nil, []globCase{
		{"", "*", list("*")},
		{"", ".*", list(".*")},
		{"", "/*", list("/*")},
		{"", "*/", list("*/")},
		{"", "?*/../", list("?*/../")},
	})
}

func TestHiddenNames(t *testing.T) {
	l := files("a", "b", ".c", ".d", "..e", "x.y")
	l["/.f"], l["/.f/g"], l["/.f/.h"] = dir(7), file(6), file(6)
	l["/i"], l["/i/.j"], l["/i/k"] = dir(7), file(6), file(6)
	checkGlob(t, l, []globCase{
		{"", "*", list("a", "b", "i", "x.y")},
		{"", "?*", list("a", "b", "i", "x.y")},
		{"", "*.*", list("x.y")},
		{"", "*c", list("*c")},
		{"", "?c", list("?c")},
		{"", "[.]c", list("[.]c")},
		{"", "[.]*", list("[.]*")},
		{"", "[!a]*", list("b", "i", "x.y")},
		{"", ".*", list("..e", ".c", ".d", ".f")},
		{"", ".?", list(".c", ".d", ".f")},
		{"", "..*", list("..e")},
		{"", ".[.c]*", list("..e", ".c")},
		{"", `\.*`, list("..e", ".c", ".d", ".f")},
		{"", `\.\.?`, list("..e")},
		{"", `\\.*`, list(`\.*`)},
		{"", "*/*", list("i/k")},
		{"", "*/.*", list("i/.j")},
		{"", ".*/*", list(".f/g")},
		{"", ".*/.*", list(".f/.h")},
		{"", `.*/\.?`, list(".f/.h")},
		{"", ".f/*", list(".f/g")},
		{"", "./*", list("./a", "./b", "./i", "./x.y")},
		{"", "./.[cd]", list("./.c", "./.d")},
		{"", "i/../*", list("i/../a", "i/../b", "i/../i", "i/../x.y")},
		{"", "i/../.?", list("i/../.c", "i/../.d", "i/../.f")},
		{"/i", "*", list("k")},
		{"/i", ".*", list(".j")},
		{"/i", "../[ab]", list("../a", "../b")},
		{"/i", ".*/a", list(".*/a")},
	})
}

// deep is a tree with directories in directories.
func deep() tree {
	return tree{
		"/a": dir(7), "/a/x": file(6), "/a/y": file(6), "/a/d": dir(7), "/a/d/z": file(6),
		"/b": dir(7), "/b/x": file(6), "/b/d": dir(7),
		"/c": file(6), "/[": dir(7), "/[/]": file(6), "/[/b]": file(6), "/[a": dir(7), "/[a/b]": file(6), `/\`: dir(7), `/\/x`: file(6),
	}
}

func TestComponents(t *testing.T) {
	checkGlob(t, deep(), []globCase{
		{"", "*/x", list(`\/x`, "a/x", "b/x")},
		{"", "a/*", list("a/d", "a/x", "a/y")},
		{"", "?/?", list("[/]", `\/x`, "a/d", "a/x", "a/y", "b/d", "b/x")},
		{"", "[ab]/[xy]", list("a/x", "a/y", "b/x")},
		{"", "*/d/*", list("a/d/z")},
		{"", "*/*/*", list("a/d/z")},
		{"", "*/d", list("a/d", "b/d")},
		{"", "*/c", list("*/c")},
		{"", "c/*", list("c/*")},
		{"", "none/*", list("none/*")},
		{"", "a/*/none", list("a/*/none")},
		// Slashes are kept as they are.
		{"", "/*", list("/[", "/[a", `/\`, "/a", "/b", "/c")},
		{"", "//[ab]", list("//a", "//b")},
		{"", "a//[xy]", list("a//x", "a//y")},
		{"", "*//x", list(`\//x`, "a//x", "b//x")},
		{"", "[ac]/", list("a/")},
		{"", "[ab]//", list("a//", "b//")},
		{"", "*/x/", list("*/x/")},
		{"", "/*/d/", list("/a/d/", "/b/d/")},
		{"/a", "*", list("d", "x", "y")},
		{"/a", "/[ab]", list("/a", "/b")},
		{"/a", "../?/d", list("../a/d", "../b/d")},
		{"/a/d", "./*", list("./z")},
		{"/c", "*", list("*")},
		{"/c", "/[c]", list("/c")},
		// A slash ends a component, whatever is before it.
		{"", `a\/*`, list("a/d", "a/x", "a/y")},
		{"", `\/[ab]`, list("/a", "/b")},
		{"", `[ab]\/x`, list("a/x", "b/x")},
		{"", `[ac]\/`, list("a/")},
		{"", `*\/d\/*`, list("a/d/z")},
		{"", `[ab]/\/x`, list("a//x", "b//x")},
		{"", `[ab]\//x`, list("a//x", "b//x")},
		{"", `\\/*`, list(`\/x`)},
		{"", `\\\/*`, list(`\/x`)},
		{"", `?\\/x`, list(`?\/x`)},
		{"", `[\\]/x`, list(`\/x`)},
		{"", `[ab]/\x`, list("a/x", "b/x")},
		{"", `[ab]/\d/*`, list("a/d/z")},
		{"", `\a/[x]`, list("a/x")},
		{"", "[/b]", list("[/b]")},
		{"", "[/?]", list("[/b]")},
		{"", "[a/b]", list("[a/b]")},
		{"", "[a/*", list("[a/b]")},
		{"", `[a\/b\]`, list("[a/b]")},
		{"", "[*/*]", list("[/]", "[/b]", "[a/b]")},
		{"", "[/*", list("[/]", "[/b]")},
		{"", `[\/*`, list("[/]", "[/b]")},
	})
}

// TestOrder has names that sort otherwise with a slash behind them: the order is that of the components.
func TestOrder(t *testing.T) {
	l := tree{"/a": dir(7), "/a/z": file(6), "/a b": dir(7), "/a b/y": file(6), "/a-": dir(7), "/a-/x": file(6), "/a0": dir(7), "/a0/w": file(6), "/A": dir(7), "/A/v": file(6)}
	checkGlob(t, l, []globCase{
		{"", "*/*", list("A/v", "a/z", "a b/y", "a-/x", "a0/w")},
		{"", "a*/", list("a/", "a b/", "a-/", "a0/")},
		{"", "*", list("A", "a", "a b", "a-", "a0")},
	})
}

func TestModes(t *testing.T) {
	l := tree{}
	for mode := range 8 {
		name := "/m" + string(rune('0'+mode))
		l[name], l[name+"/f"], l["/f"+string(rune('0'+mode))] = dir(mode), file(0), file(mode)
	}
	checkGlob(t, l, []globCase{
		// Reading the names needs 4, finding what has one of them 1.
		{"", "m?/*", list("m5/f", "m7/f")},
		{"", "m?/f", list("m1/f", "m3/f", "m5/f", "m7/f")},
		{"", "m1/*", list("m1/*")},
		{"", "m4/*", list("m4/*")},
		{"", "m*", list("m0", "m1", "m2", "m3", "m4", "m5", "m6", "m7")},
		{"", "m*/", list("m0/", "m1/", "m2/", "m3/", "m4/", "m5/", "m6/", "m7/")},
		{"", "m*/.", list("m1/.", "m3/.", "m5/.", "m7/.")},
		{"", "f*", list("f0", "f1", "f2", "f3", "f4", "f5", "f6", "f7")},
		{"/m5", "*", list("f")},
		{"/m4", "*", list("*")},
		{"/m3", "*", list("*")},
		{"/m3", "[f]", list("[f]")},
		{"/m4", "/m5/*", list("/m5/f")},
		{"/m4", "../m[5]", list("../m[5]")},
	})
}

func TestLinks(t *testing.T) {
	l := deep()
	for place, data := range map[string]string{"/lgone": "none", "/lempty": "", "/lfile": "c", "/ldir": "a", "/labs": "/b", "/lslash": "c/", "/lself": "lself", "/ltwice": "ldir", "/a/lup": ".."} {
		l[place] = link(data)
	}
	checkGlob(t, l, []globCase{
		// A link exists, wherever it leads.
		{"", "l*", list("labs", "ldir", "lempty", "lfile", "lgone", "lself", "lslash", "ltwice")},
		{"", "l*/", list("labs/", "ldir/", "ltwice/")},
		{"", "l*/x", list("labs/x", "ldir/x", "ltwice/x")},
		{"", "l*/*", list("labs/d", "labs/x", "ldir/d", "ldir/lup", "ldir/x", "ldir/y", "ltwice/d", "ltwice/lup", "ltwice/x", "ltwice/y")},
		{"", "ldir/[xy]", list("ldir/x", "ldir/y")},
		{"", "lgone/*", list("lgone/*")},
		{"", "lself/*", list("lself/*")},
		{"", "lfile/*", list("lfile/*")},
		{"", "a/lup/?", list("a/lup/[", `a/lup/\`, "a/lup/a", "a/lup/b", "a/lup/c")},
		{"/a", "l*", list("lup")},
		{"/a", "l*/[bc]", list("lup/b", "lup/c")},
	})
}

// TestLoop goes through a link to the directory that it is in, as often as a path may have links.
func TestLoop(t *testing.T) {
	l := tree{"/l": link("."), "/f": file(6)}
	for n := range 12 {
		for _, before := range list("*/", "l/") {
			pattern := strings.Repeat(before, n) + "*"
			want := list(pattern)
			if n <= api.MaxLinks {
				want = list(strings.Repeat("l/", n)+"f", strings.Repeat("l/", n)+"l")
			}
			checkGlob(t, l, []globCase{{"", pattern, want}})
		}
	}
}

// TestOddTrees has places that no process makes: with empty names and dots, and without a directory above them.
func TestOddTrees(t *testing.T) {
	l := tree{
		"/": file(6), "/.": file(6), "/..": dir(7), "/../x": file(6), "/d": dir(7), "/d/": file(6), "/d/.": dir(7), "/d/e": file(6), "/d/ ": file(6),
		"/f": file(6), "/f/g": file(6), "/none/h": file(6), "rel": file(6), "rel/i": file(6), "/k": {Kind: 4, Mode: 7}, "/k/l": file(6),
	}
	checkGlob(t, l, []globCase{
		{"", "*", list("d", "f", "k")},
		{"", "/*", list("/", "/d", "/f", "/k")},
		{"", "*/*", list("/", "/d", "/f", "/k", "d/", "d/ ", "d/e")},
		{"", "./*", list("./", "./d", "./f", "./k")},
		{"", "d/*", list("d/", "d/ ", "d/e")},
		{"", "d/?", list("d/ ", "d/e")},
		{"", ".*", list(".", "..")},
		{"", ".*/*", list("./", "./d", "./f", "./k", "../", "../d", "../f", "../k")},
		{"", "d/.*", list("d/.")},
		{"", "f/*", list("f/*")},
		{"", "none/*", list("none/*")},
		{"", "k/*", list("k/*")},
		{"", "r*", list("r*")},
		{"rel", "*", list("*")},
		{"/none", "*", list("*")},
		{"/none", "/f*", list("/f")},
	})
}
