package kern

import (
	"fmt"
	"maps"
	"slices"
	"strings"
	"testing"

	"scullion/api"
	"scullion/store"
)

// A tree is what is at the places of a store, but for the root.
type tree map[string]api.Entry

func file(mode int, data string) api.Entry { return api.Entry{Kind: api.File, Mode: mode, Data: data} }

func dir(mode int) api.Entry { return api.Entry{Kind: api.Dir, Mode: mode} }

func link(data string) api.Entry { return api.Entry{Kind: api.Link, Mode: 7, Data: data} }

// none is what is put where something is removed.
func none() api.Entry { return api.Entry{} }

// stored returns a store with the given tree.
func stored(l tree) *store.Store {
	s := store.New()
	for place, e := range l {
		s.Put(place, e)
	}
	return s
}

// treeOf returns what is at the places of a store.
func treeOf(s *store.Store) tree {
	l := tree{}
	for _, place := range s.Paths() {
		l[place] = s.At(place)
	}
	return l
}

// at returns what a tree has at a place; the root is in every tree.
func (l tree) at(place string) api.Entry {
	if place == "" {
		return dir(7)
	}
	return l[place]
}

// seen returns what a call reads, and what it writes. The reads are told as one text: the places with a space between them, `-` for the root, and `place*` for the names of a place.
func seen(s *store.Store, call func()) (reads string, writes tree) {
	s.Begin()
	call()
	r, w := s.End()
	var places []string
	for _, t := range r {
		place := t.Path
		if place == "" {
			place = "-"
		}
		if t.Names {
			place += "*"
		}
		places = append(places, place)
	}
	writes = tree{}
	for _, t := range w {
		writes[t.Path] = s.At(t.Path)
	}
	return strings.Join(places, " "), writes
}

// A row is a call, with what it must return and what it must do.
type row struct {
	cwd    string
	call   func(p *Proc) api.Errno
	want   api.Errno
	reads  string
	writes tree
}

// checkRow makes the call on a store with the given tree.
func checkRow(t *testing.T, promise, name string, l tree, r row) {
	t.Helper()
	s := stored(l)
	p := New(s, r.cwd, 0)
	pwd := p.Pwd()
	var got api.Errno
	reads, writes := seen(s, func() { got = r.call(p) })
	if got != r.want {
		t.Errorf("%s: %s returned %d, want %d", promise, name, got, r.want)
	}
	if reads != r.reads {
		t.Errorf("%s: %s read %q, want %q", promise, name, reads, r.reads)
	}
	if !maps.Equal(writes, r.writes) {
		t.Errorf("%s: %s wrote %v, want %v", promise, name, writes, r.writes)
	}
	want := maps.Clone(l)
	for place, e := range r.writes {
		want[place] = e
		if e.Kind == api.None {
			delete(want, place)
		}
	}
	if left := treeOf(s); !maps.Equal(left, want) {
		t.Errorf("%s: after %s there is %v, want %v", promise, name, left, want)
	}
	if p.Pwd() != pwd {
		t.Errorf("%s: %s went from %q to %q", promise, name, pwd, p.Pwd())
	}
}

func TestNew(t *testing.T) {
	for umask := -20; umask <= 20; umask++ {
		s := store.New()
		p := New(s, "", umask)
		if p.Mkdir("d") != api.OK || p.Write("f", "", false) != api.OK || p.Symlink("f", "l") != api.OK {
			t.Fatalf("F1: nothing can be created with the umask %d", umask)
		}
		bits := umask & 7
		want := tree{"/d": dir(7 &^ bits), "/f": file(6&^bits, ""), "/l": link("f")}
		if got := treeOf(s); !maps.Equal(got, want) {
			t.Errorf("F1: with the umask %d there is %v, want %v", umask, got, want)
		}
	}
}

func TestNewTouchesNothing(t *testing.T) {
	s := stored(tree{"/d": dir(7)})
	reads, writes := seen(s, func() {
		New(s, "/d", 0).Pwd()
		New(s, "/none", 7).Pwd()
	})
	if reads != "" || len(writes) != 0 {
		t.Errorf("F1: New and Pwd read %q and wrote %v", reads, writes)
	}
}

func TestWorkingDirectories(t *testing.T) {
	l := tree{"/d": dir(7), "/d/e": dir(7), "x": dir(7), "x/y": file(6, ""), "/": dir(7), "/d/": dir(7), "/f": file(6, ""), "/l": link("d")}
	for _, c := range []struct {
		cwd, pwd, path, place string
		want                  api.Errno
	}{
		{"", "/", ".", "", api.OK},
		{"", "/", "d", "/d", api.OK},
		{"/d", "/d", ".", "/d", api.OK},
		{"/d", "/d", "e", "/d/e", api.OK},
		{"/d/e", "/d/e", "../f", "/d/f", api.OK},
		{"x", "x", "y", "x/y", api.OK},
		{"x", "x", "..", "", api.OK},
		{"x", "x", ".", "x", api.OK},
		{"/", "/", ".", "/", api.OK},
		{"/", "/", "..", "", api.OK},
		{"/", "/", "d", "//d", api.OK},
		{"/d/", "/d/", "..", "/d", api.OK},
		{"/f", "/f", ".", "", api.ErrNotDir},
		{"/l", "/l", "e", "", api.ErrNotDir},
		{"/none", "/none", ".", "", api.ErrNone},
		{"\x00", "\x00", "..", "", api.ErrNone},
		{"/none", "/none", "/d", "/d", api.OK},
	} {
		p := New(stored(l), c.cwd, 0)
		if p.Pwd() != c.pwd {
			t.Errorf("F10: Pwd in %q is %q, want %q", c.cwd, p.Pwd(), c.pwd)
		}
		if place, _, err := p.Find(c.path, true); place != c.place || err != c.want {
			t.Errorf("F1: in %q, Find(%q) is %q and %d, want %q and %d", c.cwd, c.path, place, err, c.place, c.want)
		}
	}
}

func TestProcessesAreApart(t *testing.T) {
	s := stored(tree{"/d": dir(7)})
	p, q := New(s, "", 0), New(s, "", 7)
	if p.Chdir("d") != api.OK || p.Pwd() != "/d" || q.Pwd() != "/" {
		t.Errorf("F1: the directories are %q and %q", p.Pwd(), q.Pwd())
	}
	if p.Write("f", "x", false) != api.OK || q.Write("f", "y", false) != api.OK {
		t.Fatal("F4: nothing can be written")
	}
	if want := (tree{"/d": dir(7), "/d/f": file(6, "x"), "/f": file(0, "y")}); !maps.Equal(treeOf(s), want) {
		t.Errorf("F1: there is %v, want %v", treeOf(s), want)
	}
}

// files is a tree of files of all modes, of directories and of links to them.
func files() tree {
	l := tree{
		"/d": dir(7), "/d/f": file(6, "in d"), "/d/sub": dir(7), "/closed": dir(6), "/closed/f": file(6, ""), "/odd": {Kind: 9, Mode: 7, Data: "odd"},
		"/lf": link("d/f"), "/ld": link("/d"), "/ldf": link("ld/f/"), "/gone": link("nothing"), "/goneslash": link("nothing/"), "/self": link("self"), "/unread": link("m3"),
	}
	for mode := range 8 {
		l[fmt.Sprint("/m", mode)] = file(mode, fmt.Sprint("mode ", mode))
		l[fmt.Sprint("/d", mode)] = dir(mode)
		l[fmt.Sprintf("/d%d/f", mode)] = file(6, "x")
		l[fmt.Sprintf("/d%d/e", mode)] = dir(7)
		l[fmt.Sprintf("/d%d/l", mode)] = link("f")
	}
	return l
}

func TestRead(t *testing.T) {
	for _, c := range []struct {
		path, data string
		want       api.Errno
		reads      string
	}{
		{"/d/f", "in d", api.OK, "- /d /d/f"},
		{"lf", "in d", api.OK, "- /d /d/f /lf"},
		{"odd", "odd", api.OK, "- /odd"},
		{"", "", api.ErrNone, ""},
		{strings.Repeat("x", 201), "", api.ErrLong, ""},
		{"none", "", api.ErrNone, "- /none"},
		{"gone", "", api.ErrNone, "- /gone /nothing"},
		{"goneslash", "", api.ErrNone, "- /goneslash /nothing"},
		{"none/", "", api.ErrNone, "- /none"},
		{"d", "", api.ErrIsDir, "- /d"},
		{"ld/", "", api.ErrIsDir, "- /d /ld"},
		{"/", "", api.ErrIsDir, "-"},
		{"d0", "", api.ErrIsDir, "- /d0"},
		{"d/f/", "", api.ErrNotDir, "- /d /d/f"},
		{"ldf", "", api.ErrNotDir, "- /d /d/f /ld /ldf"},
		{"self", "", api.ErrLoop, "- /self"},
		{"closed/f", "", api.ErrMode, "- /closed"},
		{"unread", "", api.ErrMode, "- /m3 /unread"},
		{"m0", "", api.ErrMode, "- /m0"},
		{"m1", "", api.ErrMode, "- /m1"},
		{"m2", "", api.ErrMode, "- /m2"},
		{"m3", "", api.ErrMode, "- /m3"},
		{"m4", "mode 4", api.OK, "- /m4"},
		{"m5", "mode 5", api.OK, "- /m5"},
		{"m6", "mode 6", api.OK, "- /m6"},
		{"m7", "mode 7", api.OK, "- /m7"},
	} {
		checkRow(t, "F3", fmt.Sprintf("Read(%.20q)", c.path), files(), row{call: func(p *Proc) api.Errno {
			data, err := p.Read(c.path)
			if data != c.data {
				t.Errorf("F3: Read(%q) is %q, want %q", c.path, data, c.data)
			}
			return err
		}, want: c.want, reads: c.reads})
	}
}

func TestReadOfBytes(t *testing.T) {
	for _, data := range []string{"", "\x00", "\n", "a\nb\n", "\xff\xfe", "\xc3\xa9", strings.Repeat("z", api.MaxFile)} {
		p := New(store.New(), "", 0)
		if err := p.Write("f", data, false); err != api.OK {
			t.Fatalf("F4: Write of %.20q returned %d", data, err)
		}
		if got, err := p.Read("f"); got != data || err != api.OK {
			t.Errorf("F3: Read after Write of %.20q is %.20q and %d", data, got, err)
		}
	}
}

func TestWrite(t *testing.T) {
	for _, c := range []struct {
		path   string
		want   api.Errno
		reads  string
		writes tree // as they are without appending
		add    string
	}{
		{"new", api.OK, "- /new", tree{"/new": file(6, "ab")}, ""},
		{"d/new", api.OK, "- /d /d/new", tree{"/d/new": file(6, "ab")}, ""},
		{"/d/f", api.OK, "- /d /d/f", tree{"/d/f": file(6, "ab")}, "in d"},
		{"lf", api.OK, "- /d /d/f /lf", tree{"/d/f": file(6, "ab")}, "in d"},
		{"gone", api.OK, "- /gone /nothing", tree{"/nothing": file(6, "ab")}, ""},
		{"goneslash", api.OK, "- /goneslash /nothing", tree{"/nothing": file(6, "ab")}, ""},
		{"odd", api.OK, "- /odd", tree{"/odd": {Kind: 9, Mode: 7, Data: "ab"}}, "odd"},
		{"", api.ErrNone, "", nil, ""},
		{strings.Repeat("/", 201), api.ErrLong, "", nil, ""},
		{"none/new", api.ErrNone, "- /none", nil, ""},
		{"d", api.ErrIsDir, "- /d", nil, ""},
		{"d/", api.ErrIsDir, "- /d", nil, ""},
		{"ld", api.ErrIsDir, "- /d /ld", nil, ""},
		{"d0", api.ErrIsDir, "- /d0", nil, ""},
		{"/", api.ErrIsDir, "-", nil, ""},
		{".", api.ErrIsDir, "-", nil, ""},
		{"new/", api.ErrIsDir, "- /new", nil, ""},
		{"d1/new/", api.ErrIsDir, "- /d1 /d1/new", nil, ""},
		{"gone/", api.ErrIsDir, "- /gone /nothing", nil, ""},
		{"m6/", api.ErrNotDir, "- /m6", nil, ""},
		{"m6/new", api.ErrNotDir, "- /m6", nil, ""},
		{"self", api.ErrLoop, "- /self", nil, ""},
		{"d0/new", api.ErrMode, "- /d0", nil, ""},
		{"d1/new", api.ErrMode, "- /d1 /d1/new", nil, ""},
		{"d2/new", api.ErrMode, "- /d2", nil, ""},
		{"d3/new", api.OK, "- /d3 /d3/new", tree{"/d3/new": file(6, "ab")}, ""},
		{"d4/new", api.ErrMode, "- /d4", nil, ""},
		{"d5/new", api.ErrMode, "- /d5 /d5/new", nil, ""},
		{"d6/new", api.ErrMode, "- /d6", nil, ""},
		{"d7/new", api.OK, "- /d7 /d7/new", tree{"/d7/new": file(6, "ab")}, ""},
		{"d1/f", api.OK, "- /d1 /d1/f", tree{"/d1/f": file(6, "ab")}, "x"},
		{"d1/l", api.OK, "- /d1 /d1/f /d1/l", tree{"/d1/f": file(6, "ab")}, "x"},
		{"m0", api.ErrMode, "- /m0", nil, ""},
		{"m1", api.ErrMode, "- /m1", nil, ""},
		{"m2", api.OK, "- /m2", tree{"/m2": file(2, "ab")}, "mode 2"},
		{"m3", api.OK, "- /m3", tree{"/m3": file(3, "ab")}, "mode 3"},
		{"m4", api.ErrMode, "- /m4", nil, ""},
		{"m5", api.ErrMode, "- /m5", nil, ""},
		{"m6", api.OK, "- /m6", tree{"/m6": file(6, "ab")}, "mode 6"},
		{"m7", api.OK, "- /m7", tree{"/m7": file(7, "ab")}, "mode 7"},
	} {
		for _, more := range []bool{false, true} {
			writes := maps.Clone(c.writes)
			for place, e := range writes {
				if more {
					e.Data = c.add + e.Data
				}
				writes[place] = e
			}
			checkRow(t, "F4", fmt.Sprintf("Write(%.20q, %v)", c.path, more), files(), row{
				call: func(p *Proc) api.Errno { return p.Write(c.path, "ab", more) }, want: c.want, reads: c.reads, writes: writes,
			})
		}
	}
}

// TestParents takes working directories above which there is nothing, or no directory.
func TestParents(t *testing.T) {
	l := tree{"/a/b": dir(7), "/f": file(7, ""), "/f/b": dir(7), "/f/b/up": link(".."), "/x/y/z": dir(7), "/g": file(7, ""), "/g/y/z": dir(7), "/l": link("/"), "/l/y/z": dir(7)}
	write := func(p *Proc) api.Errno { return p.Write("..", "", false) }
	mkdir := func(p *Proc) api.Errno { return p.Mkdir("..") }
	symlink := func(p *Proc) api.Errno { return p.Symlink("t", "..") }
	for _, c := range []struct {
		name string
		row
	}{
		{"Write", row{cwd: "/a/b", call: write, want: api.OK, reads: "- /a /a/b", writes: tree{"/a": file(6, "")}}},
		{"Mkdir", row{cwd: "/a/b", call: mkdir, want: api.OK, reads: "- /a /a/b", writes: tree{"/a": dir(7)}}},
		{"Symlink", row{cwd: "/a/b", call: symlink, want: api.OK, reads: "- /a /a/b", writes: tree{"/a": link("t")}}},
		{"Write", row{cwd: "/f/b", call: write, want: api.OK, reads: "/f /f/b", writes: tree{"/f": file(7, "")}}},
		{"Mkdir", row{cwd: "/f/b", call: mkdir, want: api.ErrTwice, reads: "/f /f/b"}},
		{"Write", row{cwd: "/x/y/z", call: write, want: api.ErrNone, reads: "/x /x/y /x/y/z"}},
		{"Mkdir", row{cwd: "/x/y/z", call: mkdir, want: api.ErrNone, reads: "/x /x/y /x/y/z"}},
		{"Symlink", row{cwd: "/x/y/z", call: symlink, want: api.ErrNone, reads: "/x /x/y /x/y/z"}},
		{"Write", row{cwd: "/g/y/z", call: write, want: api.ErrNone, reads: "/g /g/y /g/y/z"}},
		{"Mkdir", row{cwd: "/l/y/z", call: mkdir, want: api.ErrNone, reads: "/l /l/y /l/y/z"}},
	} {
		checkRow(t, "F4", c.name+"(..) in "+c.cwd, l, c.row)
	}
}

// TestParentCheck takes a place below entries of all kinds and modes. The root is checked by itself: no call comes to its check, since there is a directory.
func TestParentCheck(t *testing.T) {
	for mode := range 8 {
		for _, c := range []struct {
			above api.Entry
			want  api.Errno
		}{
			{none(), api.ErrNone},
			{file(mode, ""), api.ErrNone},
			{api.Entry{Kind: api.Link, Mode: mode, Data: "/"}, api.ErrNone},
			{dir(mode), map[bool]api.Errno{true: api.OK, false: api.ErrMode}[mode == 3 || mode == 7]},
		} {
			writes := tree{}
			if c.want == api.OK {
				writes["/p/q"] = none()
			}
			l := tree{"/p/q": file(0, ""), "/p/q/r": dir(1)}
			if c.above.Kind != api.None {
				l["/p"] = c.above
			}
			checkRow(t, "F8", fmt.Sprintf("Unlink(..) below %v", c.above), l, row{
				cwd: "/p/q/r", call: func(p *Proc) api.Errno { return p.Unlink("..") }, want: c.want, reads: "/p /p/q /p/q/r", writes: writes,
			})
		}
	}
	for _, place := range []string{"x", "/x"} {
		checkRow(t, "F4", "the check of "+place, tree{}, row{call: func(p *Proc) api.Errno {
			return attempt(func() { p.checkParent(place) })
		}, want: api.OK, reads: "-"})
	}
	checkRow(t, "F4", "the check of the root", tree{}, row{call: func(p *Proc) api.Errno {
		return attempt(func() { p.checkParent("") })
	}, want: api.ErrMode, reads: "-"})
}

// TestParentsOfWhatIsRemoved takes entries below nothing, and below a file.
func TestParentsOfWhatIsRemoved(t *testing.T) {
	l := tree{"/a/b": file(7, ""), "/a/b/c": dir(7), "/f": file(7, ""), "/f/d": dir(7), "/f/d/e": dir(7), "/f/l": link("x"), "/f/l/c": dir(7)}
	for _, c := range []struct {
		name string
		row
	}{
		{"Unlink", row{cwd: "/a/b/c", call: func(p *Proc) api.Errno { return p.Unlink("..") }, want: api.ErrNone, reads: "/a /a/b /a/b/c"}},
		{"Unlink", row{cwd: "/f/l/c", call: func(p *Proc) api.Errno { return p.Unlink("..") }, want: api.ErrNone, reads: "/f /f/l /f/l/c"}},
		{"Rmdir", row{cwd: "/f/d/e", call: func(p *Proc) api.Errno { return p.Rmdir("..") }, want: api.ErrEmpty, reads: "/f/d /f/d* /f/d/e"}},
		{"Rmdir", row{cwd: "/f/d", call: func(p *Proc) api.Errno { return p.Rmdir("e") }, want: api.OK, reads: "/f/d /f/d/e /f/d/e*", writes: tree{"/f/d/e": none()}}},
	} {
		checkRow(t, "F8", c.name+" in "+c.cwd, l, c.row)
	}
}

func TestWriteUpToTheLimit(t *testing.T) {
	full := strings.Repeat("x", api.MaxFile)
	for _, c := range []struct {
		old, data string
		more      bool
		want      api.Errno
	}{
		{"", full, false, api.OK}, {"", full, true, api.OK}, {"", full + "y", false, api.ErrLong}, {"", full + "y", true, api.ErrLong},
		{"y", full, false, api.OK}, {"y", full, true, api.ErrLong}, {"y", full[1:], true, api.OK}, {full, "", true, api.OK}, {full, "y", true, api.ErrLong}, {full, "y", false, api.OK},
		{full + "y", "", true, api.ErrLong}, {full + "y", "", false, api.OK}, {full + full, full, true, api.ErrLong},
	} {
		want := c.data
		if c.more {
			want = c.old + c.data
		}
		s := stored(tree{"/f": file(6, c.old)})
		p := New(s, "", 0)
		if err := p.Write("f", c.data, c.more); err != c.want {
			t.Errorf("F4: Write of %d bytes to %d (%v) returned %d, want %d", len(c.data), len(c.old), c.more, err, c.want)
		}
		if c.want != api.OK {
			want = c.old
		}
		if s.At("/f") != file(6, want) {
			t.Errorf("F4: after Write of %d bytes to %d (%v) there are %d", len(c.data), len(c.old), c.more, len(s.At("/f").Data))
		}
	}
	l := files()
	for path, want := range map[string]row{
		"new":      {want: api.ErrLong, reads: "- /new"},
		"m7":       {want: api.ErrLong, reads: "- /m7"},
		"m4":       {want: api.ErrMode, reads: "- /m4"},
		"d":        {want: api.ErrIsDir, reads: "- /d"},
		"d5/new":   {want: api.ErrMode, reads: "- /d5 /d5/new"},
		"none/new": {want: api.ErrNone, reads: "- /none"},
	} {
		want.call = func(p *Proc) api.Errno { return p.Write(path, full+"y", true) }
		checkRow(t, "F4", fmt.Sprintf("Write(%q) of too much", path), l, want)
	}
}

func TestList(t *testing.T) {
	for _, c := range []struct {
		path  string
		names string
		want  api.Errno
		reads string
	}{
		{"d", "f sub", api.OK, "- /d /d*"},
		{"d/", "f sub", api.OK, "- /d /d*"},
		{"ld", "f sub", api.OK, "- /d /d* /ld"},
		{"d/sub", "", api.OK, "- /d /d/sub /d/sub*"},
		{"/", "closed d d0 d1 d2 d3 d4 d5 d6 d7 gone goneslash ld ldf lf m0 m1 m2 m3 m4 m5 m6 m7 odd self unread", api.OK, "- -*"},
		{"closed", "f", api.OK, "- /closed /closed*"},
		{"", "", api.ErrNone, ""},
		{"none", "", api.ErrNone, "- /none"},
		{"gone", "", api.ErrNone, "- /gone /nothing"},
		{"m7", "", api.ErrNotDir, "- /m7"},
		{"lf", "", api.ErrNotDir, "- /d /d/f /lf"},
		{"odd", "", api.ErrNotDir, "- /odd"},
		{"m0", "", api.ErrNotDir, "- /m0"},
		{"self", "", api.ErrLoop, "- /self"},
		{"d0", "", api.ErrMode, "- /d0"},
		{"d1", "", api.ErrMode, "- /d1"},
		{"d2", "", api.ErrMode, "- /d2"},
		{"d3", "", api.ErrMode, "- /d3"},
		{"d4", "e f l", api.OK, "- /d4 /d4*"},
		{"d5", "e f l", api.OK, "- /d5 /d5*"},
		{"d6", "e f l", api.OK, "- /d6 /d6*"},
		{"d7", "e f l", api.OK, "- /d7 /d7*"},
		{"d4/e", "", api.ErrMode, "- /d4"},
		{"d1/e", "", api.OK, "- /d1 /d1/e /d1/e*"},
	} {
		checkRow(t, "F5", fmt.Sprintf("List(%q)", c.path), files(), row{call: func(p *Proc) api.Errno {
			names, err := p.List(c.path)
			if !slices.Equal(names, strings.Fields(c.names)) {
				t.Errorf("F5: List(%q) is %q, want %q", c.path, names, c.names)
			}
			return err
		}, want: c.want, reads: c.reads})
	}
}

// creations are paths at which a directory or a link may be created or not.
func creations() []struct {
	path  string
	want  api.Errno
	reads string
	place string
} {
	return []struct {
		path  string
		want  api.Errno
		reads string
		place string
	}{
		{"new", api.OK, "- /new", "/new"},
		{"/d/sub/new", api.OK, "- /d /d/sub /d/sub/new", "/d/sub/new"},
		{"ld/new", api.OK, "- /d /d/new /ld", "/d/new"},
		{"d/./sub/../new", api.OK, "- /d /d/new /d/sub", "/d/new"},
		{"", api.ErrNone, "", ""},
		{strings.Repeat("a", 201), api.ErrLong, "", ""},
		{strings.Repeat("a", 33), api.ErrLong, "-", ""},
		{"none/new", api.ErrNone, "- /none", ""},
		{"m7/new", api.ErrNotDir, "- /m7", ""},
		{"d", api.ErrTwice, "- /d", ""},
		{"m0", api.ErrTwice, "- /m0", ""},
		{"odd", api.ErrTwice, "- /odd", ""},
		{"ld", api.ErrTwice, "- /ld", ""},
		{"gone", api.ErrTwice, "- /gone", ""},
		{"self", api.ErrTwice, "- /self", ""},
		{".", api.ErrTwice, "-", ""},
		{"d/..", api.ErrTwice, "- /d", ""},
		{"d5/f", api.ErrTwice, "- /d5 /d5/f", ""},
		{"self/new", api.ErrLoop, "- /self", ""},
		{"d0/new", api.ErrMode, "- /d0", ""},
		{"d1/new", api.ErrMode, "- /d1 /d1/new", ""},
		{"d2/new", api.ErrMode, "- /d2", ""},
		{"d3/new", api.OK, "- /d3 /d3/new", "/d3/new"},
		{"d4/new", api.ErrMode, "- /d4", ""},
		{"d5/new", api.ErrMode, "- /d5 /d5/new", ""},
		{"d6/new", api.ErrMode, "- /d6", ""},
		{"d7/new", api.OK, "- /d7 /d7/new", "/d7/new"},
	}
}

func TestMkdir(t *testing.T) {
	mkdir := func(path string) func(p *Proc) api.Errno {
		return func(p *Proc) api.Errno { return p.Mkdir(path) }
	}
	for _, c := range creations() {
		writes := tree{}
		if c.want == api.OK {
			writes[c.place] = dir(7)
		}
		checkRow(t, "F6", fmt.Sprintf("Mkdir(%.20q)", c.path), files(), row{call: mkdir(c.path), want: c.want, reads: c.reads, writes: writes})
	}
	for path, want := range map[string]row{
		"new/":       {want: api.OK, reads: "- /new", writes: tree{"/new": dir(7)}},
		"new//":      {want: api.OK, reads: "- /new", writes: tree{"/new": dir(7)}},
		"gone/":      {want: api.OK, reads: "- /gone /nothing", writes: tree{"/nothing": dir(7)}},
		"goneslash/": {want: api.OK, reads: "- /goneslash /nothing", writes: tree{"/nothing": dir(7)}},
		"/":          {want: api.ErrTwice, reads: "-"},
		"d/":         {want: api.ErrTwice, reads: "- /d"},
		"ld/":        {want: api.ErrTwice, reads: "- /d /ld"},
		"m7/":        {want: api.ErrNotDir, reads: "- /m7"},
		"self/":      {want: api.ErrLoop, reads: "- /self"},
	} {
		want.call = mkdir(path)
		checkRow(t, "F6", fmt.Sprintf("Mkdir(%q)", path), files(), want)
	}
}

func TestSymlink(t *testing.T) {
	symlink := func(target, path string) func(p *Proc) api.Errno {
		return func(p *Proc) api.Errno { return p.Symlink(target, path) }
	}
	for _, c := range creations() {
		writes := tree{}
		if c.want == api.OK {
			writes[c.place] = link("/to/")
		}
		checkRow(t, "F6", fmt.Sprintf("Symlink to %.20q", c.path), files(), row{call: symlink("/to/", c.path), want: c.want, reads: c.reads, writes: writes})
	}
	long := strings.Repeat("/", 200)
	for _, c := range []struct {
		target, path string
		want         row
	}{
		{"x", "new/", row{want: api.ErrNone}},
		{"x", "/", row{want: api.ErrNone}},
		{"x", "d/", row{want: api.ErrNone}},
		{"x", "m7/", row{want: api.ErrNone}},
		{"x", "gone/", row{want: api.ErrNone}},
		{"x", long + "/", row{want: api.ErrNone}},
		{"x", long + "a", row{want: api.ErrLong}},
		{"", "new", row{want: api.ErrArg}},
		{"", "", row{want: api.ErrArg}},
		{"", "new/", row{want: api.ErrArg}},
		{"", "d", row{want: api.ErrArg}},
		{long + "a", "new", row{want: api.ErrArg}},
		{long + "a", "new/", row{want: api.ErrArg}},
		{long + "a", long + "a", row{want: api.ErrArg}},
		{long, "new", row{want: api.OK, reads: "- /new", writes: tree{"/new": link(long)}}},
		{"\x00\xff", "new", row{want: api.OK, reads: "- /new", writes: tree{"/new": link("\x00\xff")}}},
		{"new", "new", row{want: api.OK, reads: "- /new", writes: tree{"/new": link("new")}}},
	} {
		c.want.call = symlink(c.target, c.path)
		checkRow(t, "F6", fmt.Sprintf("Symlink(%.20q, %.20q)", c.target, c.path), files(), c.want)
	}
}

func TestReadlink(t *testing.T) {
	l := files()
	l["/m"] = api.Entry{Kind: api.Link, Mode: 0, Data: "modes do not count"}
	l["/blank"] = link("")
	for _, c := range []struct {
		path, target string
		want         api.Errno
		reads        string
	}{
		{"lf", "d/f", api.OK, "- /lf"},
		{"ldf", "ld/f/", api.OK, "- /ldf"},
		{"self", "self", api.OK, "- /self"},
		{"/gone", "nothing", api.OK, "- /gone"},
		{"m", "modes do not count", api.OK, "- /m"},
		{"blank", "", api.OK, "- /blank"},
		{"d1/l", "f", api.OK, "- /d1 /d1/l"},
		{"", "", api.ErrNone, ""},
		{"none", "", api.ErrNone, "- /none"},
		{"gone/", "", api.ErrNone, "- /gone /nothing"},
		{"blank/", "", api.ErrNone, "- /blank"},
		{"d", "", api.ErrKind, "- /d"},
		{"ld/", "", api.ErrKind, "- /d /ld"},
		{"m7", "", api.ErrKind, "- /m7"},
		{"odd", "", api.ErrKind, "- /odd"},
		{"/", "", api.ErrKind, "-"},
		{"lf/", "", api.ErrNotDir, "- /d /d/f /lf"},
		{"self/", "", api.ErrLoop, "- /self"},
		{"d6/l", "", api.ErrMode, "- /d6"},
	} {
		checkRow(t, "F7", fmt.Sprintf("Readlink(%q)", c.path), l, row{call: func(p *Proc) api.Errno {
			target, err := p.Readlink(c.path)
			if target != c.target {
				t.Errorf("F7: Readlink(%q) is %q, want %q", c.path, target, c.target)
			}
			return err
		}, want: c.want, reads: c.reads})
	}
}

func TestUnlink(t *testing.T) {
	for path, want := range map[string]row{
		"d/f":     {want: api.OK, reads: "- /d /d/f", writes: tree{"/d/f": none()}},
		"m0":      {want: api.OK, reads: "- /m0", writes: tree{"/m0": none()}},
		"odd":     {want: api.OK, reads: "- /odd", writes: tree{"/odd": none()}},
		"lf":      {want: api.OK, reads: "- /lf", writes: tree{"/lf": none()}},
		"ld":      {want: api.OK, reads: "- /ld", writes: tree{"/ld": none()}},
		"self":    {want: api.OK, reads: "- /self", writes: tree{"/self": none()}},
		"ld/f":    {want: api.OK, reads: "- /d /d/f /ld", writes: tree{"/d/f": none()}},
		"":        {want: api.ErrNone},
		"none":    {want: api.ErrNone, reads: "- /none"},
		"none/":   {want: api.ErrNone, reads: "- /none"},
		"gone/":   {want: api.ErrNone, reads: "- /gone /nothing"},
		"d5/none": {want: api.ErrNone, reads: "- /d5 /d5/none"},
		"d":       {want: api.ErrIsDir, reads: "- /d"},
		"ld/":     {want: api.ErrIsDir, reads: "- /d /ld"},
		"d5/e":    {want: api.ErrIsDir, reads: "- /d5 /d5/e"},
		"/":       {want: api.ErrIsDir, reads: "-"},
		"lf/":     {want: api.ErrNotDir, reads: "- /d /d/f /lf"},
		"m7/f":    {want: api.ErrNotDir, reads: "- /m7"},
		"self/":   {want: api.ErrLoop, reads: "- /self"},
		"d0/f":    {want: api.ErrMode, reads: "- /d0"},
		"d1/f":    {want: api.ErrMode, reads: "- /d1 /d1/f"},
		"d2/f":    {want: api.ErrMode, reads: "- /d2"},
		"d3/f":    {want: api.OK, reads: "- /d3 /d3/f", writes: tree{"/d3/f": none()}},
		"d4/f":    {want: api.ErrMode, reads: "- /d4"},
		"d5/l":    {want: api.ErrMode, reads: "- /d5 /d5/l"},
		"d6/f":    {want: api.ErrMode, reads: "- /d6"},
		"d7/l":    {want: api.OK, reads: "- /d7 /d7/l", writes: tree{"/d7/l": none()}},
	} {
		want.call = func(p *Proc) api.Errno { return p.Unlink(path) }
		checkRow(t, "F8", fmt.Sprintf("Unlink(%q)", path), files(), want)
	}
}

func TestRmdir(t *testing.T) {
	for _, c := range []struct {
		path string
		want row
	}{
		{"d/sub", row{want: api.OK, reads: "- /d /d/sub /d/sub*", writes: tree{"/d/sub": none()}}},
		{"d/sub/", row{want: api.OK, reads: "- /d /d/sub /d/sub*", writes: tree{"/d/sub": none()}}},
		{"ld/sub", row{want: api.OK, reads: "- /d /d/sub /d/sub* /ld", writes: tree{"/d/sub": none()}}},
		{"lsub/", row{want: api.OK, reads: "- /d /d/sub /d/sub* /lsub", writes: tree{"/d/sub": none()}}},
		{"shut", row{want: api.OK, reads: "- /shut /shut*", writes: tree{"/shut": none()}}},
		{"", row{want: api.ErrNone}},
		{"none", row{want: api.ErrNone, reads: "- /none"}},
		{"none/", row{want: api.ErrNone, reads: "- /none"}},
		{"m7", row{want: api.ErrNotDir, reads: "- /m7"}},
		{"m7/", row{want: api.ErrNotDir, reads: "- /m7"}},
		{"ld", row{want: api.ErrNotDir, reads: "- /ld"}},
		{"odd", row{want: api.ErrNotDir, reads: "- /odd"}},
		{"self/", row{want: api.ErrLoop, reads: "- /self"}},
		{"/", row{want: api.ErrMode, reads: "-"}},
		{"d/..", row{want: api.ErrMode, reads: "- /d"}},
		{"/", row{cwd: "/d", want: api.ErrMode, reads: "-"}},
		{"/d", row{cwd: "/d", want: api.ErrMode, reads: "- /d"}},
		{".", row{cwd: "/d/sub", want: api.ErrMode, reads: "/d/sub"}},
		{"../sub", row{cwd: "/d/sub", want: api.ErrMode, reads: "/d /d/sub"}},
		{"/lsub/", row{cwd: "/d/sub", want: api.ErrMode, reads: "- /d /d/sub /lsub"}},
		{"..", row{cwd: "/d/sub", want: api.ErrEmpty, reads: "/d /d* /d/sub"}},
		{"d", row{want: api.ErrEmpty, reads: "- /d /d*"}},
		{"ld/", row{want: api.ErrEmpty, reads: "- /d /d* /ld"}},
		{"d0", row{want: api.ErrEmpty, reads: "- /d0 /d0*"}},
		{"d0/e", row{want: api.ErrMode, reads: "- /d0"}},
		{"d1/e", row{want: api.ErrMode, reads: "- /d1 /d1/e /d1/e*"}},
		{"d2/e", row{want: api.ErrMode, reads: "- /d2"}},
		{"d3/e", row{want: api.OK, reads: "- /d3 /d3/e /d3/e*", writes: tree{"/d3/e": none()}}},
		{"d4/e", row{want: api.ErrMode, reads: "- /d4"}},
		{"d5/e", row{want: api.ErrMode, reads: "- /d5 /d5/e /d5/e*"}},
		{"d5/full", row{want: api.ErrEmpty, reads: "- /d5 /d5/full /d5/full*"}},
		{"d6/e", row{want: api.ErrMode, reads: "- /d6"}},
		{"d7/e", row{want: api.OK, reads: "- /d7 /d7/e /d7/e*", writes: tree{"/d7/e": none()}}},
	} {
		l := files()
		l["/lsub"] = link("d/sub")
		l["/shut"] = dir(0)
		l["/d5/full"] = dir(7)
		l["/d5/full/f"] = file(6, "")
		c.want.call = func(p *Proc) api.Errno { return p.Rmdir(c.path) }
		checkRow(t, "F8", fmt.Sprintf("Rmdir(%q) in %q", c.path, c.want.cwd), l, c.want)
	}
}

func TestRename(t *testing.T) {
	moved := func(from, to string, e api.Entry) tree { return tree{from: none(), to: e} }
	for _, c := range []struct {
		from, to string
		want     row
	}{
		{"m6", "new", row{want: api.OK, reads: "- /m6 /new", writes: moved("/m6", "/new", file(6, "mode 6"))}},
		{"m0", "d/f", row{want: api.OK, reads: "- /d /d/f /m0", writes: moved("/m0", "/d/f", file(0, "mode 0"))}},
		{"m6", "m0", row{want: api.OK, reads: "- /m0 /m6", writes: moved("/m6", "/m0", file(6, "mode 6"))}},
		{"odd", "new", row{want: api.OK, reads: "- /new /odd", writes: moved("/odd", "/new", api.Entry{Kind: 9, Mode: 7, Data: "odd"})}},
		{"lf", "d/new", row{want: api.OK, reads: "- /d /d/new /lf", writes: moved("/lf", "/d/new", link("d/f"))}},
		{"m6", "ld", row{want: api.OK, reads: "- /ld /m6", writes: moved("/m6", "/ld", file(6, "mode 6"))}},
		{"m6", "self", row{want: api.OK, reads: "- /m6 /self", writes: moved("/m6", "/self", file(6, "mode 6"))}},
		{"ld/f", "ld/new", row{want: api.OK, reads: "- /d /d/f /d/new /ld", writes: moved("/d/f", "/d/new", file(6, "in d"))}},
		{"m6", "m6", row{want: api.OK, reads: "- /m6"}},
		{"d/f", "d/../ld/f", row{want: api.OK, reads: "- /d /d/f /ld"}},
		{"lf", "lf", row{want: api.OK, reads: "- /lf"}},
		{"lf", "d/f", row{want: api.OK, reads: "- /d /d/f /lf", writes: moved("/lf", "/d/f", link("d/f"))}},
		{"", "", row{want: api.ErrNone}},
		{"none", "new", row{want: api.ErrNone, reads: "- /none"}},
		{"none", "d", row{want: api.ErrNone, reads: "- /none"}},
		{"none", "self/", row{want: api.ErrNone, reads: "- /none"}},
		{"d", "new", row{want: api.ErrIsDir, reads: "- /d"}},
		{"d", "none/new", row{want: api.ErrIsDir, reads: "- /d"}},
		{"ld/", "new", row{want: api.ErrIsDir, reads: "- /d /ld"}},
		{"/", "new", row{want: api.ErrIsDir, reads: "-"}},
		{"m6/", "new", row{want: api.ErrNotDir, reads: "- /m6"}},
		{"self/", "", row{want: api.ErrLoop, reads: "- /self"}},
		{"closed/f", "", row{want: api.ErrMode, reads: "- /closed"}},
		{"m6", "", row{want: api.ErrNone, reads: "- /m6"}},
		{"m6", strings.Repeat("/", 201), row{want: api.ErrLong, reads: "- /m6"}},
		{"m6", "none/new", row{want: api.ErrNone, reads: "- /m6 /none"}},
		{"m6", "d", row{want: api.ErrIsDir, reads: "- /d /m6"}},
		{"m6", "d/", row{want: api.ErrIsDir, reads: "- /d /m6"}},
		{"m6", "ld/", row{want: api.ErrIsDir, reads: "- /d /ld /m6"}},
		{"m6", "/", row{want: api.ErrIsDir, reads: "- /m6"}},
		{"m6", "new/", row{want: api.ErrNotDir, reads: "- /m6 /new"}},
		{"m6", "gone/", row{want: api.ErrNotDir, reads: "- /gone /m6 /nothing"}},
		{"m6", "m7/", row{want: api.ErrNotDir, reads: "- /m6 /m7"}},
		{"m6", "m6/", row{want: api.ErrNotDir, reads: "- /m6"}},
		{"m6", "m7/new", row{want: api.ErrNotDir, reads: "- /m6 /m7"}},
		{"m6", "self/", row{want: api.ErrLoop, reads: "- /m6 /self"}},
		{"d5/f", "d", row{want: api.ErrIsDir, reads: "- /d /d5 /d5/f"}},
		{"d5/f", "new/", row{want: api.ErrNotDir, reads: "- /d5 /d5/f /new"}},
		{"d5/f", "d5/f", row{want: api.ErrMode, reads: "- /d5 /d5/f"}},
		{"d5/f", "new", row{want: api.ErrMode, reads: "- /d5 /d5/f /new"}},
		{"d1/f", "d3/new", row{want: api.ErrMode, reads: "- /d1 /d1/f /d3 /d3/new"}},
		{"m6", "d1/new", row{want: api.ErrMode, reads: "- /d1 /d1/new /m6"}},
		{"m6", "d1/f", row{want: api.ErrMode, reads: "- /d1 /d1/f /m6"}},
		{"m6", "d2/new", row{want: api.ErrMode, reads: "- /d2 /m6"}},
		{"m6", "d5/new", row{want: api.ErrMode, reads: "- /d5 /d5/new /m6"}},
		{"d3/f", "d7/f", row{want: api.OK, reads: "- /d3 /d3/f /d7 /d7/f", writes: moved("/d3/f", "/d7/f", file(6, "x"))}},
	} {
		c.want.call = func(p *Proc) api.Errno { return p.Rename(c.from, c.to) }
		checkRow(t, "F9", fmt.Sprintf("Rename(%.20q, %.20q)", c.from, c.to), files(), c.want)
	}
}

// TestParentsOfWhatIsRenamed takes places below nothing, so that the two parent checks return different errors.
func TestParentsOfWhatIsRenamed(t *testing.T) {
	l := tree{"/p/q": file(6, "q"), "/p/q/r": dir(7), "/x/y": dir(7), "/five": dir(5), "/five/f": file(6, ""), "/open": file(6, "o")}
	for _, c := range []struct {
		from, to string
		row
	}{
		{"..", "/five/f", row{cwd: "/p/q/r", want: api.ErrNone, reads: "- /five /five/f /p /p/q /p/q/r"}},
		{"/five/f", "..", row{cwd: "/p/q/r", want: api.ErrMode, reads: "- /five /five/f /p/q /p/q/r"}},
		{"..", "..", row{cwd: "/p/q/r", want: api.ErrNone, reads: "/p /p/q /p/q/r"}},
		{"/open", "..", row{cwd: "/p/q/r", want: api.ErrNone, reads: "- /open /p /p/q /p/q/r"}},
		{"/open", "..", row{cwd: "/x/y", want: api.OK, reads: "- /open /x /x/y", writes: tree{"/open": none(), "/x": file(6, "o")}}},
	} {
		c.call = func(p *Proc) api.Errno { return p.Rename(c.from, c.to) }
		checkRow(t, "F9", fmt.Sprintf("Rename(%q, %q) in %q", c.from, c.to, c.cwd), l, c.row)
	}
}

func TestChmod(t *testing.T) {
	for _, c := range []struct {
		path string
		mode int
		want row
	}{
		{"m6", 0, row{want: api.OK, reads: "- /m6", writes: tree{"/m6": file(0, "mode 6")}}},
		{"m0", 7, row{want: api.OK, reads: "- /m0", writes: tree{"/m0": file(7, "mode 0")}}},
		{"m5", 5, row{want: api.OK, reads: "- /m5", writes: tree{"/m5": file(5, "mode 5")}}},
		{"d", 1, row{want: api.OK, reads: "- /d", writes: tree{"/d": dir(1)}}},
		{"d/", 2, row{want: api.OK, reads: "- /d", writes: tree{"/d": dir(2)}}},
		{"lf", 3, row{want: api.OK, reads: "- /d /d/f /lf", writes: tree{"/d/f": file(3, "in d")}}},
		{"d1/e", 4, row{want: api.OK, reads: "- /d1 /d1/e", writes: tree{"/d1/e": dir(4)}}},
		{"odd", 6, row{want: api.OK, reads: "- /odd", writes: tree{"/odd": {Kind: 9, Mode: 6, Data: "odd"}}}},
		{"m6", -1, row{want: api.ErrArg, reads: "- /m6"}},
		{"m6", 8, row{want: api.ErrArg, reads: "- /m6"}},
		{"m6", -1 << 63, row{want: api.ErrArg, reads: "- /m6"}},
		{"m6", 1<<63 - 1, row{want: api.ErrArg, reads: "- /m6"}},
		{"m6", 1 << 32, row{want: api.ErrArg, reads: "- /m6"}},
		{"/", 8, row{want: api.ErrArg, reads: "-"}},
		{"/", 7, row{want: api.ErrMode, reads: "-"}},
		{"d/..", 0, row{want: api.ErrMode, reads: "- /d"}},
		{"", 7, row{want: api.ErrNone}},
		{"", 8, row{want: api.ErrNone}},
		{"none", 7, row{want: api.ErrNone, reads: "- /none"}},
		{"none", 8, row{want: api.ErrNone, reads: "- /none"}},
		{"gone", 7, row{want: api.ErrNone, reads: "- /gone /nothing"}},
		{"m6/", 8, row{want: api.ErrNotDir, reads: "- /m6"}},
		{"self", 8, row{want: api.ErrLoop, reads: "- /self"}},
		{"closed/f", 7, row{want: api.ErrMode, reads: "- /closed"}},
	} {
		c.want.call = func(p *Proc) api.Errno { return p.Chmod(c.path, c.mode) }
		checkRow(t, "F10", fmt.Sprintf("Chmod(%q, %d)", c.path, c.mode), files(), c.want)
	}
}

func TestChdir(t *testing.T) {
	for _, c := range []struct {
		cwd, path, pwd string
		want           api.Errno
		reads          string
	}{
		{"", "d", "/d", api.OK, "- /d"},
		{"", "d/sub/", "/d/sub", api.OK, "- /d /d/sub"},
		{"/d/sub", "..", "/d", api.OK, "/d /d/sub"},
		{"/d/sub", "../..", "/", api.OK, "- /d /d/sub"},
		{"/d", "/", "/", api.OK, "-"},
		{"", "..", "/", api.OK, "-"},
		{"", ".", "/", api.OK, "-"},
		{"", "ld/sub", "/d/sub", api.OK, "- /d /d/sub /ld"},
		{"", "ld", "/d", api.OK, "- /d /ld"},
		{"/d", "", "/d", api.ErrNone, ""},
		{"/d", "none", "/d", api.ErrNone, "/d /d/none"},
		{"/d", "/gone", "/d", api.ErrNone, "- /gone /nothing"},
		{"/d", "f", "/d", api.ErrNotDir, "/d /d/f"},
		{"/d", "/m0", "/d", api.ErrNotDir, "- /m0"},
		{"/d", "/lf", "/d", api.ErrNotDir, "- /d /d/f /lf"},
		{"/d", "/self", "/d", api.ErrLoop, "- /self"},
		{"/d", "/d0", "/d", api.ErrMode, "- /d0"},
		{"/d", "/d1", "/d1", api.OK, "- /d1"},
		{"/d", "/d2", "/d", api.ErrMode, "- /d2"},
		{"/d", "/d3", "/d3", api.OK, "- /d3"},
		{"/d", "/d4", "/d", api.ErrMode, "- /d4"},
		{"/d", "/d5", "/d5", api.OK, "- /d5"},
		{"/d", "/d6", "/d", api.ErrMode, "- /d6"},
		{"/d", "/d7", "/d7", api.OK, "- /d7"},
		{"/d", "/d4/e", "/d", api.ErrMode, "- /d4"},
	} {
		s := stored(files())
		p := New(s, c.cwd, 0)
		var err api.Errno
		reads, writes := seen(s, func() { err = p.Chdir(c.path) })
		if err != c.want || p.Pwd() != c.pwd {
			t.Errorf("F10: Chdir(%q) in %q returned %d and led to %q, want %d and %q", c.path, c.cwd, err, p.Pwd(), c.want, c.pwd)
		}
		if reads != c.reads || len(writes) != 0 {
			t.Errorf("F10: Chdir(%q) in %q read %q and wrote %v, want %q", c.path, c.cwd, reads, writes, c.reads)
		}
	}
}

// TestTheSameEntryIsPut holds that a write is one even if it changes nothing.
func TestTheSameEntryIsPut(t *testing.T) {
	for name, call := range map[string]func(p *Proc) api.Errno{
		"Write":            func(p *Proc) api.Errno { return p.Write("m6", "mode 6", false) },
		"Write of nothing": func(p *Proc) api.Errno { return p.Write("m6", "", true) },
		"Chmod":            func(p *Proc) api.Errno { return p.Chmod("m6", 6) },
	} {
		checkRow(t, "F4", name, files(), row{call: call, want: api.OK, reads: "- /m6", writes: tree{"/m6": file(6, "mode 6")}})
	}
}

// TestExamples makes the calls of the chapter's example, and those that README.md shows.
func TestExamples(t *testing.T) {
	p := New(store.New(), "", 0)
	if p.Mkdir("a") != api.OK || p.Write("a/b", "x", false) != api.OK || p.Symlink("b", "a/c") != api.OK {
		t.Fatal("F6: nothing can be created")
	}
	if data, err := p.Read("/a/./b"); data != "x" || err != api.OK {
		t.Errorf("F3: Read is %q and %d", data, err)
	}
	if place, e, err := p.Find("a/c", true); place != "/a/b" || e != file(6, "x") || err != api.OK {
		t.Errorf("F2: Find is %q, %v and %d", place, e, err)
	}
	if err := p.Rmdir("a"); err != api.ErrEmpty {
		t.Errorf("F8: Rmdir returned %d", err)
	}
	if err := p.Chdir("a"); err != api.OK || p.Pwd() != "/a" {
		t.Errorf("F10: Chdir returned %d and led to %q", err, p.Pwd())
	}
	if names, err := p.List("."); !slices.Equal(names, []string{"b", "c"}) || err != api.OK {
		t.Errorf("F5: List is %q and %d", names, err)
	}
}

// TestFaultsPanicOn holds that only errors of the program end with the call.
func TestFaultsPanicOn(t *testing.T) {
	for _, raised := range []any{"x", 10, fmt.Errorf("x"), []int{}} {
		func() {
			defer func() {
				if recover() == nil {
					t.Errorf("a fault %v is taken for an error", raised)
				}
			}()
			attempt(func() { panic(raised) })
		}()
	}
	if err := attempt(func() { panic(api.ErrLoop) }); err != api.ErrLoop {
		t.Errorf("a raised error became %d", err)
	}
	if err := attempt(func() {}); err != api.OK {
		t.Errorf("no error became %d", err)
	}
}
