package kern

import (
	"fmt"
	"maps"
	"slices"
	"strings"
	"testing"

	"scullion/api"
	"scullion/store"
)

// A model is what a process and its store must be. It keeps to the chapter's words, with errors as results, and notes what is read.
type model struct {
	entries tree
	cwd     string
	umask   int
	seen    map[string]bool // the places, and with a `*` those of which the names were read
	writes  tree
}

// parent returns the place above a place.
func parent(place string) string {
	for i := len(place) - 1; i >= 0; i-- {
		if place[i] == '/' {
			return place[:i]
		}
	}
	return ""
}

// components returns the parts of a path that are not empty.
func components(path string) []string {
	return strings.FieldsFunc(path, func(r rune) bool { return r == '/' })
}

func (m *model) at(place string) api.Entry {
	m.seen[place] = true
	return m.entries.at(place)
}

func (m *model) names(place string) []string {
	m.seen[place+"*"] = true
	var l []string
	for p := range m.entries {
		if strings.Contains(p, "/") && parent(p) == place {
			l = append(l, p[strings.LastIndex(p, "/")+1:])
		}
	}
	slices.Sort(l)
	return l
}

func (m *model) put(place string, e api.Entry) {
	if place == "" {
		return
	}
	m.writes[place] = e
	m.entries[place] = e
	if e.Kind == api.None {
		delete(m.entries, place)
	}
}

// passes returns the error of going on from a place.
func (m *model) passes(place string) api.Errno {
	switch e := m.at(place); {
	case e.Kind == api.None:
		return api.ErrNone
	case e.Kind != api.Dir:
		return api.ErrNotDir
	case e.Mode&1 == 0:
		return api.ErrMode
	}
	return api.OK
}

func (m *model) find(path string, follow bool) (string, api.Entry, api.Errno) {
	nothing := api.Entry{}
	if path == "" {
		return "", nothing, api.ErrNone
	}
	if len(path) > 200 {
		return "", nothing, api.ErrLong
	}
	place := m.cwd
	if path[0] == '/' {
		place = ""
	}
	slash, links := path[len(path)-1] == '/', 0
	for todo := components(path); len(todo) > 0; {
		name := todo[0]
		todo = todo[1:]
		if err := m.passes(place); err != api.OK {
			return "", nothing, err
		}
		if len(name) > 32 {
			return "", nothing, api.ErrLong
		}
		if name == "." {
			continue
		}
		if name == ".." {
			place = parent(place)
			continue
		}
		e := m.at(place + "/" + name)
		if e.Kind == api.Link && (len(todo) > 0 || follow || slash) {
			links++
			if links == 9 {
				return "", nothing, api.ErrLoop
			}
			if e.Data == "" {
				return "", nothing, api.ErrNone
			}
			slash = slash || len(todo) == 0 && e.Data[len(e.Data)-1] == '/'
			if e.Data[0] == '/' {
				place = ""
			}
			todo = append(components(e.Data), todo...)
			continue
		}
		if e.Kind == api.None && len(todo) > 0 {
			return "", nothing, api.ErrNone
		}
		place += "/" + name
	}
	e := m.at(place)
	if slash && e.Kind != api.None && e.Kind != api.Dir {
		return "", nothing, api.ErrNotDir
	}
	return place, e, api.OK
}

func (m *model) parentCheck(place string) api.Errno {
	switch e := m.at(parent(place)); {
	case place == "":
		return api.ErrMode
	case e.Kind != api.Dir:
		return api.ErrNone
	case e.Mode&3 != 3:
		return api.ErrMode
	}
	return api.OK
}

func (m *model) read(path string) (string, api.Errno) {
	_, e, err := m.find(path, true)
	switch {
	case err != api.OK:
		return "", err
	case e.Kind == api.None:
		return "", api.ErrNone
	case e.Kind == api.Dir:
		return "", api.ErrIsDir
	case e.Mode&4 == 0:
		return "", api.ErrMode
	}
	return e.Data, api.OK
}

func (m *model) write(path, data string, more bool) api.Errno {
	place, e, err := m.find(path, true)
	there := e.Kind != api.None
	if err != api.OK {
		return err
	}
	if e.Kind == api.Dir || !there && strings.HasSuffix(path, "/") {
		return api.ErrIsDir
	}
	if !there {
		if err := m.parentCheck(place); err != api.OK {
			return err
		}
		e = file(6&^m.umask, "")
	} else if e.Mode&2 == 0 {
		return api.ErrMode
	}
	if more {
		data = e.Data + data
	}
	if len(data) > 100000 {
		return api.ErrLong
	}
	m.put(place, api.Entry{Kind: e.Kind, Mode: e.Mode, Data: data})
	return api.OK
}

func (m *model) list(path string) ([]string, api.Errno) {
	place, e, err := m.find(path, true)
	switch {
	case err != api.OK:
		return nil, err
	case e.Kind == api.None:
		return nil, api.ErrNone
	case e.Kind != api.Dir:
		return nil, api.ErrNotDir
	case e.Mode&4 == 0:
		return nil, api.ErrMode
	}
	return m.names(place), api.OK
}

func (m *model) mkdir(path string) api.Errno { return m.create(path, dir(7&^m.umask)) }

func (m *model) symlink(target, path string) api.Errno {
	if target == "" || len(target) > 200 {
		return api.ErrArg
	}
	if strings.HasSuffix(path, "/") {
		return api.ErrNone
	}
	return m.create(path, link(target))
}

func (m *model) create(path string, fresh api.Entry) api.Errno {
	place, e, err := m.find(path, false)
	if err != api.OK {
		return err
	}
	if e.Kind != api.None {
		return api.ErrTwice
	}
	if err := m.parentCheck(place); err != api.OK {
		return err
	}
	m.put(place, fresh)
	return api.OK
}

func (m *model) readlink(path string) (string, api.Errno) {
	_, e, err := m.find(path, false)
	switch {
	case err != api.OK:
		return "", err
	case e.Kind == api.None:
		return "", api.ErrNone
	case e.Kind != api.Link:
		return "", api.ErrKind
	}
	return e.Data, api.OK
}

func (m *model) unlink(path string) api.Errno {
	place, e, err := m.find(path, false)
	switch {
	case err != api.OK:
		return err
	case e.Kind == api.None:
		return api.ErrNone
	case e.Kind == api.Dir:
		return api.ErrIsDir
	}
	if err := m.parentCheck(place); err != api.OK {
		return err
	}
	m.put(place, none())
	return api.OK
}

func (m *model) rmdir(path string) api.Errno {
	place, e, err := m.find(path, false)
	switch {
	case err != api.OK:
		return err
	case e.Kind == api.None:
		return api.ErrNone
	case e.Kind != api.Dir:
		return api.ErrNotDir
	case place == m.cwd || place == "":
		return api.ErrMode
	case len(m.names(place)) > 0:
		return api.ErrEmpty
	}
	if err := m.parentCheck(place); err != api.OK {
		return err
	}
	m.put(place, none())
	return api.OK
}

func (m *model) rename(from, to string) api.Errno {
	source, e, err := m.find(from, false)
	switch {
	case err != api.OK:
		return err
	case e.Kind == api.None:
		return api.ErrNone
	case e.Kind == api.Dir:
		return api.ErrIsDir
	}
	target, old, err := m.find(to, false)
	switch {
	case err != api.OK:
		return err
	case old.Kind == api.Dir:
		return api.ErrIsDir
	case old.Kind == api.None && strings.HasSuffix(to, "/"):
		return api.ErrNotDir
	}
	if err := m.parentCheck(source); err != api.OK {
		return err
	}
	if err := m.parentCheck(target); err != api.OK {
		return err
	}
	if source == target {
		return api.OK
	}
	m.put(source, none())
	m.put(target, e)
	return api.OK
}

func (m *model) chmod(path string, mode int) api.Errno {
	place, e, err := m.find(path, true)
	switch {
	case err != api.OK:
		return err
	case e.Kind == api.None:
		return api.ErrNone
	case mode < 0 || mode > 7:
		return api.ErrArg
	case place == "":
		return api.ErrMode
	}
	m.put(place, api.Entry{Kind: e.Kind, Mode: mode, Data: e.Data})
	return api.OK
}

func (m *model) chdir(path string) api.Errno {
	place, e, err := m.find(path, true)
	switch {
	case err != api.OK:
		return err
	case e.Kind == api.None:
		return api.ErrNone
	case e.Kind != api.Dir:
		return api.ErrNotDir
	case e.Mode&1 == 0:
		return api.ErrMode
	}
	m.cwd = place
	return api.OK
}

func (m *model) pwd() string {
	if m.cwd == "" {
		return "/"
	}
	return m.cwd
}

// reads returns what was read, as seen does.
func (m *model) reads() string {
	var l []string
	for _, key := range slices.SortedFunc(maps.Keys(m.seen), func(a, b string) int {
		if c := strings.Compare(strings.TrimSuffix(a, "*"), strings.TrimSuffix(b, "*")); c != 0 {
			return c
		}
		return len(a) - len(b)
	}) {
		if key == "" || key == "*" {
			key = "-" + key
		}
		l = append(l, key)
	}
	return strings.Join(l, " ")
}

// An action is a call with its arguments.
type action struct {
	name        string
	path, other string
	flag        bool
	mode        int
}

// of makes the call for a process, and tells all of its results.
func (a action) of(p *Proc) string {
	switch a.name {
	case "Find":
		place, e, err := p.Find(a.path, a.flag)
		return fmt.Sprintf("%q %q %d", place, store.Value(e), err)
	case "Read":
		data, err := p.Read(a.path)
		return fmt.Sprintf("%q %d", data, err)
	case "Write":
		return fmt.Sprint(p.Write(a.path, a.other, a.flag))
	case "List":
		names, err := p.List(a.path)
		return fmt.Sprintf("%q %d", names, err)
	case "Mkdir":
		return fmt.Sprint(p.Mkdir(a.path))
	case "Symlink":
		return fmt.Sprint(p.Symlink(a.other, a.path))
	case "Readlink":
		target, err := p.Readlink(a.path)
		return fmt.Sprintf("%q %d", target, err)
	case "Unlink":
		return fmt.Sprint(p.Unlink(a.path))
	case "Rmdir":
		return fmt.Sprint(p.Rmdir(a.path))
	case "Rename":
		return fmt.Sprint(p.Rename(a.path, a.other))
	case "Chmod":
		return fmt.Sprint(p.Chmod(a.path, a.mode))
	}
	return fmt.Sprint(p.Chdir(a.path))
}

// in makes the call in the model, and tells all of its results.
func (a action) in(m *model) string {
	switch a.name {
	case "Find":
		place, e, err := m.find(a.path, a.flag)
		return fmt.Sprintf("%q %q %d", place, store.Value(e), err)
	case "Read":
		data, err := m.read(a.path)
		return fmt.Sprintf("%q %d", data, err)
	case "Write":
		return fmt.Sprint(m.write(a.path, a.other, a.flag))
	case "List":
		names, err := m.list(a.path)
		return fmt.Sprintf("%q %d", names, err)
	case "Mkdir":
		return fmt.Sprint(m.mkdir(a.path))
	case "Symlink":
		return fmt.Sprint(m.symlink(a.other, a.path))
	case "Readlink":
		target, err := m.readlink(a.path)
		return fmt.Sprintf("%q %d", target, err)
	case "Unlink":
		return fmt.Sprint(m.unlink(a.path))
	case "Rmdir":
		return fmt.Sprint(m.rmdir(a.path))
	case "Rename":
		return fmt.Sprint(m.rename(a.path, a.other))
	case "Chmod":
		return fmt.Sprint(m.chmod(a.path, a.mode))
	}
	return fmt.Sprint(m.chdir(a.path))
}

// failed tells whether the results of a call have an error; it stands at their end.
func failed(results string) bool { return results != "0" && !strings.HasSuffix(results, " 0") }

// numbers returns a function that returns the same sequence of numbers in every run.
func numbers(seed int) func(below int) int {
	state := uint64(seed)
	return func(below int) int {
		state = state*6364136223846793005 + 1442695040888963407
		return int(state>>33) % below
	}
}

// somePath returns a path of a few components, which is seldom empty or too long.
func somePath(next func(int) int) string {
	if next(60) == 0 {
		return []string{"", "//", strings.Repeat("a/", 101), strings.Repeat("b", 33), "a/" + strings.Repeat("b", 33)}[next(5)]
	}
	path := []string{"", "", "/"}[next(3)]
	for range 1 + next(3) {
		path += []string{"a", "a", "b", "b", "c", "l", "l", ".", ".."}[next(9)] + []string{"/", "/", "//"}[next(3)]
	}
	if next(4) != 0 {
		path = strings.TrimRight(path, "/")
	}
	return path
}

func someAction(next func(int) int) action {
	names := []string{"Find", "Read", "Write", "Write", "List", "Mkdir", "Mkdir", "Mkdir", "Symlink", "Symlink", "Readlink", "Unlink", "Rmdir", "Rename", "Rename", "Chmod", "Chdir"}
	a := action{name: names[next(len(names))], path: somePath(next), flag: next(2) == 0}
	switch a.name {
	case "Write":
		a.other = []string{"", "x", "yy"}[next(3)]
	case "Symlink", "Rename":
		a.other = somePath(next)
	case "Chmod":
		a.mode = []int{-1, 8, 0, 1, 2, 3, 4, 5, 6, 7, 7, 7, 7, 7, 7, 7}[next(16)]
	}
	return a
}

// someEntry returns an entry of any kind.
func someEntry(next func(int) int) api.Entry {
	mode := []int{7, 7, 7, 6, 5, 3, 1, 0}[next(8)]
	switch next(5) {
	case 0, 1:
		return dir(mode)
	case 2:
		return file(mode, "data")
	case 3:
		return none()
	}
	return api.Entry{Kind: api.Link, Mode: mode, Data: []string{"", somePath(next)}[min(next(10), 1)]}
}

// places are those that most paths lead to.
func places() []string {
	return []string{"/a", "/b", "/c", "/l", "/a/a", "/a/b", "/a/c", "/a/l", "/b/a", "/b/b", "/b/l", "/l/a", "/l/l", "/a/a/a", "/a/a/l", "/a/b/b", "/b/a/b"}
}

// someTree returns a tree in which anything may stand above anything.
func someTree(next func(int) int) tree {
	l := tree{}
	for _, place := range places() {
		if e := someEntry(next); e.Kind != api.None {
			l[place] = e
		}
	}
	return l
}

// checkAction makes the call for p, which works on s, and in the model, and returns what it told.
func checkAction(t *testing.T, seed int, s *store.Store, p *Proc, m *model, a action) string {
	t.Helper()
	m.seen, m.writes = map[string]bool{}, tree{}
	var got string
	reads, writes := seen(s, func() { got = a.of(p) })
	want := a.in(m)
	if got != want || reads != m.reads() || !maps.Equal(writes, m.writes) || p.Pwd() != m.pwd() {
		t.Fatalf("seed %d: %+.40v returned %s, read %q, wrote %v, and is in %q; want %s, %q, %v and %q; there is %v", seed, a, got, reads, writes, p.Pwd(), want, m.reads(), m.writes, m.pwd(), m.entries)
	}
	if left := treeOf(s); !maps.Equal(left, m.entries) {
		t.Fatalf("seed %d: after %+.40v there is %v, want %v", seed, a, left, m.entries)
	}
	if failed(got) && len(writes) != 0 {
		t.Fatalf("F11: seed %d: %+.40v returned %s, and wrote %v", seed, a, got, writes)
	}
	return got
}

// TestSequences holds a process against the model, from an empty store on; a directory stays above every place.
func TestSequences(t *testing.T) {
	counts := map[string]int{}
	for seed := range 400 {
		next := numbers(seed)
		s, umask := store.New(), []int{0, 0, 0, 2, 7}[next(5)]
		p, m := New(s, "", umask), &model{entries: tree{}, umask: umask}
		for range 150 {
			a := someAction(next)
			pwd := p.Pwd()
			got := checkAction(t, seed, s, p, m, a)
			if failed(got) {
				counts[a.name+" "+got[strings.LastIndex(got, " ")+1:]]++
				if p.Pwd() != pwd {
					t.Fatalf("F11: seed %d: %v led from %q to %q", seed, a, pwd, p.Pwd())
				}
			} else {
				counts[a.name]++
			}
			for _, place := range s.Paths() {
				if s.At(parent(place)).Kind != api.Dir {
					t.Fatalf("F11: seed %d: after %v there is no directory above %q", seed, a, place)
				}
			}
		}
	}
	// The sequences are worth something only if the calls end in many ways.
	if len(counts) < 80 {
		t.Errorf("F11: only %d ends: %v", len(counts), counts)
	}
}

// TestCallsOnAnyTree holds single calls against the model.
func TestCallsOnAnyTree(t *testing.T) {
	for seed := range 30000 {
		next := numbers(seed)
		l := someTree(next)
		cwd := append(places(), "", "", "", "", "", "/", "a")[next(len(places())+7)]
		s := stored(l)
		checkAction(t, seed, s, New(s, cwd, 0), &model{entries: l, cwd: cwd}, someAction(next))
	}
}

// TestEffectsDependOnReads makes the same call on other stores that agree with what it read.
func TestEffectsDependOnReads(t *testing.T) {
	others, worked := 0, 0
	for seed := range 20000 {
		next := numbers(seed)
		before := stored(someTree(next))
		a := someAction(next)
		first := before.Copy()
		first.Begin()
		p := New(first, "", 0)
		want := a.of(p)
		reads, writes := first.End()
		for range 3 {
			other := before.Copy()
			other.Put(places()[next(len(places()))], someEntry(next))
			other.Put(places()[next(len(places()))], someEntry(next))
			if !other.Agrees(reads) {
				continue
			}
			others++
			if !failed(want) {
				worked++
			}
			other.Begin()
			q := New(other, "", 0)
			got := a.of(q)
			againReads, againWrites := other.End()
			if got != want || q.Pwd() != p.Pwd() || !slices.Equal(againReads, reads) || !slices.Equal(againWrites, writes) {
				t.Fatalf("F11: seed %d: %v returned %s, read %v and wrote %v, and on a store that agrees %s, %v and %v", seed, a, want, reads, writes, got, againReads, againWrites)
			}
		}
	}
	if others < 10000 || worked < 3000 {
		t.Errorf("F11: only %d stores agreed, and only %d calls worked", others, worked)
	}
}
