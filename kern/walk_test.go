package kern

import (
	"fmt"
	"strings"
	"testing"

	"scullion/api"
)

// ways is a tree with directories of all modes, files, and links of many forms.
func ways() tree {
	l := tree{
		"/d": dir(7), "/d/e": dir(7), "/d/e/g": file(6, "g"), "/d/f": file(6, "x"), "/f": file(0, "f"), "/search": dir(1), "/search/f": file(0, ""), "/odd": {Kind: 9, Mode: 7},
		"/lf": link("f"), "/ld": link("d"), "/lds": link("d/"), "/lfs": link("f/"), "/ldd": link("d///"), "/abs": link("/d/e"), "/root": link("/"), "/roots": link("///"),
		"/d/up": link(".."), "/d/e/up": link("../f"), "/d/here": link("."), "/d/abs": link("/lf"), "/d/e/down": link("up"), "/d/loop": link("../d/loop/"),
		"/gone": link("none"), "/gones": link("none/"), "/gonedeep": link("none/none"), "/empty": link(""), "/self": link("self"), "/ping": link("pong"), "/pong": link("ping"),
		"/twice": link("ld/here/../lds"), "/thrice": link("d//./e///g"), "/tolf": link("lf"), "/tolds": link("lds"), "/tolfs": link("lfs"), "/through": link("f/x"),
	}
	for _, mode := range []int{0, 2, 4, 6} {
		l[fmt.Sprint("/m", mode)] = dir(mode)
		l[fmt.Sprintf("/m%d/f", mode)] = file(6, "")
		l[fmt.Sprint("/lm", mode)] = link(fmt.Sprintf("m%d/f", mode))
	}
	return l
}

// A search is a path, with what Find must return for it.
type search struct {
	cwd, path string
	follow    bool
	place     string
	want      api.Errno
	reads     string
}

// checkSearch calls Find on a store with the given tree.
func checkSearch(t *testing.T, l tree, c search) {
	t.Helper()
	name := fmt.Sprintf("Find(%.40q, %v) in %q", c.path, c.follow, c.cwd)
	call := func(p *Proc) api.Errno {
		place, e, err := p.Find(c.path, c.follow)
		want := api.Entry{}
		if c.want == api.OK {
			want = l.at(c.place)
		}
		if place != c.place || e != want {
			t.Errorf("F2: %s is %q with %v, want %q with %v", name, place, e, c.place, want)
		}
		return err
	}
	checkRow(t, "F2", name, l, row{cwd: c.cwd, call: call, want: c.want, reads: c.reads})
}

func TestFind(t *testing.T) {
	for _, c := range []search{
		{"", "/", false, "", api.OK, "-"},
		{"", "//", true, "", api.OK, "-"},
		{"/d", "/", false, "", api.OK, "-"},
		{"", "/d", false, "/d", api.OK, "- /d"},
		{"", "d", false, "/d", api.OK, "- /d"},
		{"/d", "/d", false, "/d", api.OK, "- /d"},
		{"", "d/", false, "/d", api.OK, "- /d"},
		{"", "///d///e//", false, "/d/e", api.OK, "- /d /d/e"},
		{"", "/d/e/g", false, "/d/e/g", api.OK, "- /d /d/e /d/e/g"},
		{"/d", "e/g", true, "/d/e/g", api.OK, "/d /d/e /d/e/g"},
		{"/d/e", "g", true, "/d/e/g", api.OK, "/d/e /d/e/g"},
		{"/d", ".", false, "/d", api.OK, "/d"},
		{"/d", "./", false, "/d", api.OK, "/d"},
		{"/d", "..", false, "", api.OK, "- /d"},
		{"/d/e", "..", false, "/d", api.OK, "/d /d/e"},
		{"/d/e", "../../f", false, "/f", api.OK, "- /d /d/e /f"},
		{"", "..", false, "", api.OK, "-"},
		{"", "../../d/../..", false, "", api.OK, "- /d"},
		{"", "./d/./e/.", false, "/d/e", api.OK, "- /d /d/e"},
		{"", "/d/e/../f", false, "/d/f", api.OK, "- /d /d/e /d/f"},
		{"", "...", false, "/...", api.OK, "- /..."},
		{"", "search/f", false, "/search/f", api.OK, "- /search /search/f"},
		{"", "odd", true, "/odd", api.OK, "- /odd"},
		{"", "m0", false, "/m0", api.OK, "- /m0"},
		{"", "m6/", false, "/m6", api.OK, "- /m6"},
		{"", "none", false, "/none", api.OK, "- /none"},
		{"", "none", true, "/none", api.OK, "- /none"},
		{"", "none/", false, "/none", api.OK, "- /none"},
		{"", "none//", true, "/none", api.OK, "- /none"},
		{"/d", "e/none", false, "/d/e/none", api.OK, "/d /d/e /d/e/none"},
		{"", "\x00\xff", false, "/\x00\xff", api.OK, "- /\x00\xff"},
		{"", "none/.", false, "", api.ErrNone, "- /none"},
		{"", "none/..", false, "", api.ErrNone, "- /none"},
		{"", "none/none", false, "", api.ErrNone, "- /none"},
		{"", "d/none/none", true, "", api.ErrNone, "- /d /d/none"},
		{"/none", ".", false, "", api.ErrNone, "/none"},
		{"/none", "d", false, "", api.ErrNone, "/none"},
		{"/none", "..", false, "", api.ErrNone, "/none"},
		{"/d/e/none", "../g", false, "", api.ErrNone, "/d/e/none"},
		{"", "f/", false, "", api.ErrNotDir, "- /f"},
		{"", "odd/", true, "", api.ErrNotDir, "- /odd"},
		{"", "f/.", false, "", api.ErrNotDir, "- /f"},
		{"", "f/..", false, "", api.ErrNotDir, "- /f"},
		{"", "d/f/x", false, "", api.ErrNotDir, "- /d /d/f"},
		{"/f", "x", false, "", api.ErrNotDir, "/f"},
		{"/ld", "e", false, "", api.ErrNotDir, "/ld"},
		{"/ld", ".", true, "", api.ErrNotDir, "/ld"},
		{"", "m0/f", false, "", api.ErrMode, "- /m0"},
		{"", "m2/f", false, "", api.ErrMode, "- /m2"},
		{"", "m4/f", false, "", api.ErrMode, "- /m4"},
		{"", "m6/f", false, "", api.ErrMode, "- /m6"},
		{"", "m6/.", false, "", api.ErrMode, "- /m6"},
		{"", "m6/..", false, "", api.ErrMode, "- /m6"},
		{"", "m6/none", false, "", api.ErrMode, "- /m6"},
		{"/m6", ".", false, "", api.ErrMode, "/m6"},
		{"/m6", "..", false, "", api.ErrMode, "/m6"},
		{"/m6", "/d", false, "/d", api.OK, "- /d"},
	} {
		checkSearch(t, ways(), c)
	}
}

func TestFindOfLinks(t *testing.T) {
	for _, c := range []search{
		{"", "lf", false, "/lf", api.OK, "- /lf"},
		{"", "lf", true, "/f", api.OK, "- /f /lf"},
		{"", "ld", false, "/ld", api.OK, "- /ld"},
		{"", "ld", true, "/d", api.OK, "- /d /ld"},
		{"", "ld/", false, "/d", api.OK, "- /d /ld"},
		{"", "ld/", true, "/d", api.OK, "- /d /ld"},
		{"", "lds", false, "/lds", api.OK, "- /lds"},
		{"", "lds", true, "/d", api.OK, "- /d /lds"},
		{"", "lds/e", false, "/d/e", api.OK, "- /d /d/e /lds"},
		{"", "ldd/f", true, "/d/f", api.OK, "- /d /d/f /ldd"},
		{"", "ld/.", false, "/d", api.OK, "- /d /ld"},
		{"", "ld/..", false, "", api.OK, "- /d /ld"},
		{"", "abs/..", false, "/d", api.OK, "- /abs /d /d/e"},
		{"/d", "/abs", true, "/d/e", api.OK, "- /abs /d /d/e"},
		{"", "root", true, "", api.OK, "- /root"},
		{"", "root/", false, "", api.OK, "- /root"},
		{"", "root", false, "/root", api.OK, "- /root"},
		{"", "roots/d", false, "/d", api.OK, "- /d /roots"},
		{"/d", "up", true, "", api.OK, "- /d /d/up"},
		{"/d", "up/f", false, "/f", api.OK, "- /d /d/up /f"},
		{"/d", "here/here/here/f", false, "/d/f", api.OK, "/d /d/f /d/here"},
		{"/d/e", "up", true, "/d/f", api.OK, "/d /d/e /d/e/up /d/f"},
		{"", "ld/e/up", true, "/d/f", api.OK, "- /d /d/e /d/e/up /d/f /ld"},
		{"/d/e", "down", true, "/d/f", api.OK, "/d /d/e /d/e/down /d/e/up /d/f"},
		{"/d", "abs", true, "/f", api.OK, "- /d /d/abs /f /lf"},
		{"/d", "abs", false, "/d/abs", api.OK, "/d /d/abs"},
		{"", "tolf", true, "/f", api.OK, "- /f /lf /tolf"},
		{"", "tolds/", false, "/d", api.OK, "- /d /lds /tolds"},
		{"", "tolds/f", false, "/d/f", api.OK, "- /d /d/f /lds /tolds"},
		{"", "twice", true, "/d", api.OK, "- /d /d/here /ld /lds /twice"},
		{"", "thrice", true, "/d/e/g", api.OK, "- /d /d/e /d/e/g /thrice"},
		{"", "gone", false, "/gone", api.OK, "- /gone"},
		{"", "gone", true, "/none", api.OK, "- /gone /none"},
		{"", "gone/", false, "/none", api.OK, "- /gone /none"},
		{"", "gones", true, "/none", api.OK, "- /gones /none"},
		{"", "gone/x", false, "", api.ErrNone, "- /gone /none"},
		{"", "gones/x", true, "", api.ErrNone, "- /gones /none"},
		{"", "gonedeep", true, "", api.ErrNone, "- /gonedeep /none"},
		{"", "gonedeep", false, "/gonedeep", api.OK, "- /gonedeep"},
		{"", "empty", false, "/empty", api.OK, "- /empty"},
		{"", "empty", true, "", api.ErrNone, "- /empty"},
		{"", "empty/", false, "", api.ErrNone, "- /empty"},
		{"", "empty/d", false, "", api.ErrNone, "- /empty"},
		// A file behind a slash, whether the slash stands in the path or in a link that was followed as the last component.
		{"", "lf/", false, "", api.ErrNotDir, "- /f /lf"},
		{"", "lfs", false, "/lfs", api.OK, "- /lfs"},
		{"", "lfs", true, "", api.ErrNotDir, "- /f /lfs"},
		{"", "tolfs", true, "", api.ErrNotDir, "- /f /lfs /tolfs"},
		{"", "tolf/", false, "", api.ErrNotDir, "- /f /lf /tolf"},
		{"", "lfs/x", true, "", api.ErrNotDir, "- /f /lfs"},
		{"", "lds/f", true, "/d/f", api.OK, "- /d /d/f /lds"},
		{"", "lds/lf", true, "/d/lf", api.OK, "- /d /d/lf /lds"},
		{"", "through", true, "", api.ErrNotDir, "- /f /through"},
		{"", "through", false, "/through", api.OK, "- /through"},
		{"", "lm0", true, "", api.ErrMode, "- /lm0 /m0"},
		{"", "lm6", true, "", api.ErrMode, "- /lm6 /m6"},
		{"", "self", false, "/self", api.OK, "- /self"},
		{"", "self", true, "", api.ErrLoop, "- /self"},
		{"", "self/", false, "", api.ErrLoop, "- /self"},
		{"", "self/x", false, "", api.ErrLoop, "- /self"},
		{"", "ping", true, "", api.ErrLoop, "- /ping /pong"},
		{"", "d/loop", true, "", api.ErrLoop, "- /d /d/loop"},
	} {
		checkSearch(t, ways(), c)
	}
}

// TestSlashOfALink holds that the slash of a link counts also for the links behind it.
func TestSlashOfALink(t *testing.T) {
	l := tree{"/d": dir(7), "/d/f": file(6, ""), "/a": link("b/"), "/b": link("c"), "/c": link("d"), "/fa": link("fb/"), "/fb": link("d/f"), "/mid": link("d/"), "/na": link("nb/"), "/nb": link("none")}
	for _, c := range []search{
		{"", "a", true, "/d", api.OK, "- /a /b /c /d"},
		{"", "a/", false, "/d", api.OK, "- /a /b /c /d"},
		{"", "fa", true, "", api.ErrNotDir, "- /d /d/f /fa /fb"},
		{"", "fb", true, "/d/f", api.OK, "- /d /d/f /fb"},
		{"", "mid/f", true, "/d/f", api.OK, "- /d /d/f /mid"},
		{"", "mid/f", false, "/d/f", api.OK, "- /d /d/f /mid"},
		{"", "na", true, "/none", api.OK, "- /na /nb /none"},
	} {
		checkSearch(t, l, c)
	}
	// A link in the middle is not the last component, so that its slash lets the last one stay a link.
	l["/d/l"] = link("f")
	checkSearch(t, l, search{"", "mid/l", false, "/d/l", api.OK, "- /d /d/l /mid"})
	checkSearch(t, l, search{"", "mid/l", true, "/d/f", api.OK, "- /d /d/f /d/l /mid"})
}

func TestPathsUpToTheLimit(t *testing.T) {
	l := tree{"/d": dir(7), "/f": file(6, "")}
	dots := strings.Repeat("./", 100)
	for _, c := range []search{
		{"", "", false, "", api.ErrNone, ""},
		{"", "", true, "", api.ErrNone, ""},
		{"/none", "", true, "", api.ErrNone, ""},
		{"", dots, false, "", api.OK, "-"},
		{"", dots + ".", false, "", api.ErrLong, ""},
		{"", "/" + dots, true, "", api.ErrLong, ""},
		{"/none", dots + ".", true, "", api.ErrLong, ""},
		{"", strings.Repeat("/", 200), false, "", api.OK, "-"},
		{"", strings.Repeat("/", 201), false, "", api.ErrLong, ""},
		{"", strings.Repeat("/", 199) + "d", false, "/d", api.OK, "- /d"},
		{"", "d" + strings.Repeat("/", 199), false, "/d", api.OK, "- /d"},
		{"", "d" + strings.Repeat("/", 200), false, "", api.ErrLong, ""},
		{"", strings.Repeat("none/", 41), false, "", api.ErrLong, ""},
		{"", strings.Repeat("\xc3\xa9", 101), false, "", api.ErrLong, ""},
		{"", strings.Repeat("x", 1000000), false, "", api.ErrLong, ""},
	} {
		checkSearch(t, l, c)
	}
}

func TestNamesUpToTheLimit(t *testing.T) {
	good, bad := strings.Repeat("n", 32), strings.Repeat("n", 33)
	accents := strings.Repeat("\xc3\xa9", 16)
	l := tree{
		"/d": dir(7), "/d/" + good: dir(7), "/d/" + bad: file(6, "there"), "/f": file(6, ""), "/m": dir(6),
		"/lgood": link("d/" + good), "/lbad": link("d/" + bad), "/lbadmid": link(bad + "/../f"), "/ldots": link(strings.Repeat("./", 1000) + "f"),
	}
	for _, c := range []search{
		{"", good, false, "/" + good, api.OK, "- /" + good},
		{"", accents, false, "/" + accents, api.OK, "- /" + accents},
		{"", "d/" + good + "/x", false, "/d/" + good + "/x", api.OK, "- /d /d/" + good + " /d/" + good + "/x"},
		{"", bad, false, "", api.ErrLong, "-"},
		{"", bad + "/", true, "", api.ErrLong, "-"},
		{"", accents + "n", false, "", api.ErrLong, "-"},
		{"", strings.Repeat("n", 200), false, "", api.ErrLong, "-"},
		{"", strings.Repeat(".", 33), false, "", api.ErrLong, "-"},
		{"", "d/" + bad, false, "", api.ErrLong, "- /d"},
		{"", "d/" + bad + "/x", false, "", api.ErrLong, "- /d"},
		{"", "d/../" + bad + "/../f", false, "", api.ErrLong, "- /d"},
		{"", "none/" + bad, false, "", api.ErrNone, "- /none"},
		{"", "f/" + bad, false, "", api.ErrNotDir, "- /f"},
		{"", "m/" + bad, false, "", api.ErrMode, "- /m"},
		{"/none", bad, false, "", api.ErrNone, "/none"},
		{"", "lgood", true, "/d/" + good, api.OK, "- /d /d/" + good + " /lgood"},
		{"", "lbad", false, "/lbad", api.OK, "- /lbad"},
		{"", "lbad", true, "", api.ErrLong, "- /d /lbad"},
		{"", "lbadmid", true, "", api.ErrLong, "- /lbadmid"},
		// The data of a link may have more bytes than a path.
		{"", "ldots", true, "/f", api.OK, "- /f /ldots"},
	} {
		checkSearch(t, l, c)
	}
}

// chain is a tree of links, each of which leads to the one before it, and the first one to the given data.
func chain(links int, data string) tree {
	l := tree{"/d": dir(7), "/d/f": file(6, ""), "/l1": link(data)}
	for i := 2; i <= links; i++ {
		l[fmt.Sprint("/l", i)] = link(fmt.Sprint("l", i-1))
	}
	return l
}

// readsOfChain is what is read on the way through the last ones of a chain.
func readsOfChain(from, to int, before, after string) string {
	reads := before
	for i := from; i <= to; i++ {
		reads += fmt.Sprint(" /l", i)
	}
	return reads + after
}

func TestLinksUpToTheLimit(t *testing.T) {
	for _, c := range []struct {
		links int
		data  string
		search
	}{
		{8, "d", search{"", "l8", true, "/d", api.OK, readsOfChain(1, 8, "- /d", "")}},
		{8, "d", search{"", "l8/", false, "/d", api.OK, readsOfChain(1, 8, "- /d", "")}},
		{8, "d", search{"", "l8/f", false, "/d/f", api.OK, readsOfChain(1, 8, "- /d /d/f", "")}},
		{8, "none", search{"", "l8", true, "/none", api.OK, readsOfChain(1, 8, "-", " /none")}},
		{8, "", search{"", "l8", true, "", api.ErrNone, readsOfChain(1, 8, "-", "")}},
		{9, "d", search{"", "l9", true, "", api.ErrLoop, readsOfChain(1, 9, "-", "")}},
		{9, "d", search{"", "l9/f", false, "", api.ErrLoop, readsOfChain(1, 9, "-", "")}},
		{9, "", search{"", "l9", true, "", api.ErrLoop, readsOfChain(1, 9, "-", "")}},
		{9, "d", search{"", "l9", false, "/l9", api.OK, "- /l9"}},
		{9, "d", search{"", "d/../l8", true, "/d", api.OK, readsOfChain(1, 8, "- /d", "")}},
	} {
		checkSearch(t, chain(c.links, c.data), c.search)
	}
	// Links are counted in the whole resolution, those in the middle among them.
	l := tree{"/d": dir(7), "/d/l": link("."), "/d/f": file(6, ""), "/l": link("d")}
	for n := range 12 {
		path := "l/" + strings.Repeat("l/", n)
		for _, c := range []search{
			{"", path + "f", false, "/d/f", api.OK, "- /d /d/f /d/l /l"},
			{"", path, false, "/d", api.OK, "- /d /d/l /l"},
			{"", path + "l", false, "/d/l", api.OK, "- /d /d/l /l"},
		} {
			if n == 0 && !strings.HasSuffix(c.path, "l") {
				c.reads = strings.Replace(c.reads, " /d/l", "", 1)
			}
			if n >= 8 {
				c.place, c.want, c.reads = "", api.ErrLoop, "- /d /d/l /l"
			}
			checkSearch(t, l, c)
		}
	}
	// Each call counts anew.
	p := New(stored(chain(8, "d")), "", 0)
	for range 3 {
		if place, _, err := p.Find("l8", true); place != "/d" || err != api.OK {
			t.Errorf("F2: Find is %q and %d", place, err)
		}
	}
}
