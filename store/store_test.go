package store

import (
	"fmt"
	"math"
	"regexp"
	"slices"
	"sort"
	"strconv"
	"strings"
	"testing"

	"scullion/api"
)

// top is the entry of the root.
var top = api.Entry{Kind: api.Dir, Mode: 7}

// topValue is the Value of the root.
const topValue = "1:2,1:7,0:,"

func file(mode int, data string) api.Entry { return api.Entry{Kind: api.File, Mode: mode, Data: data} }

func dir(mode int) api.Entry { return api.Entry{Kind: api.Dir, Mode: mode} }

func link(data string) api.Entry { return api.Entry{Kind: api.Link, Mode: 7, Data: data} }

// netstrings returns the encoding of a list, as layer 2 defines it.
func netstrings(l ...string) string {
	var b strings.Builder
	for _, s := range l {
		fmt.Fprintf(&b, "%d:%s,", len(s), s)
	}
	return b.String()
}

// valueOf returns the Value of e, as E2 defines it.
func valueOf(e api.Entry) string {
	if e.Kind == api.None {
		return ""
	}
	return netstrings(strconv.Itoa(e.Kind), strconv.Itoa(e.Mode), e.Data)
}

// at is a touch of the entry of a place.
func at(path string, e api.Entry) api.Touch { return api.Touch{Path: path, Value: valueOf(e)} }

// names is a touch of the names of a place.
func names(path string, l ...string) api.Touch {
	return api.Touch{Path: path, Names: true, Value: netstrings(l...)}
}

// oddPlaces are places of many forms, no two of them equal, in ascending order; the root is not among them.
func oddPlaces() []string {
	return []string{
		"\x00", " ", ".", "..", "/", "/\x00", "/ ", "/-", "/.", "/..", "//", "///", "//a", "/A", "/a", "/a-", "/a.b", "/a/", "/a//", "/a//b", "/a/b",
		"/a/b/c", "/a/b/c/d", "/a/bc", "/a0", "/a:1,", "/ab", "/ab/c", "/b", "/b/a", "/\x7f", "/\x80", "/\xc3\xa9", "/\xff", "a", "a/", "a/b", "ab", "\xff", "\xff/x",
	}
}

// stored returns a store with a file at each of the places, whose data is the place.
func stored(places ...string) *Store {
	x := New()
	for _, p := range places {
		x.Put(p, file(6, p))
	}
	return x
}

func checkAt(t *testing.T, promise string, x *Store, path string, want api.Entry) {
	t.Helper()
	if got := x.At(path); got != want {
		t.Fatalf("%s: At(%q) is %q, want %q", promise, path, valueOf(got), valueOf(want))
	}
}

func checkNames(t *testing.T, promise string, x *Store, path string, want ...string) {
	t.Helper()
	if got := x.Names(path); !slices.Equal(got, want) {
		t.Fatalf("%s: Names(%q) is %q, want %q", promise, path, got, want)
	}
}

func checkPaths(t *testing.T, promise string, x *Store, want ...string) {
	t.Helper()
	if got := x.Paths(); !slices.Equal(got, want) {
		t.Fatalf("%s: Paths() is %q, want %q", promise, got, want)
	}
}

// checkEnd fails if what x recorded is not what is wanted.
func checkEnd(t *testing.T, promise string, x *Store, reads, writes []api.Touch) {
	t.Helper()
	r, w := x.End()
	if !slices.Equal(r, reads) {
		t.Fatalf("%s: the reads are %q, want %q", promise, told(r), told(reads))
	}
	if !slices.Equal(w, writes) {
		t.Fatalf("%s: the writes are %q, want %q", promise, told(w), told(writes))
	}
}

// checkNothingRecorded fails if x recorded anything.
func checkNothingRecorded(t *testing.T, promise string, x *Store) {
	t.Helper()
	checkEnd(t, promise, x, nil, nil)
}

// told returns the touches of l in a form that can be printed.
func told(l []api.Touch) []string {
	var told []string
	for _, t := range l {
		told = append(told, fmt.Sprintf("%s %v %s", t.Path, t.Names, t.Value))
	}
	return told
}

func TestNewHasOnlyTheRoot(t *testing.T) {
	x := New()
	checkAt(t, "E1", x, "", top)
	checkNames(t, "E1", x, "")
	checkPaths(t, "E1", x)
	for _, p := range oddPlaces() {
		checkAt(t, "E1", x, p, api.Entry{})
		checkNames(t, "E1", x, p)
	}
	checkNothingRecorded(t, "E1", x)
}

func TestStoresAreApart(t *testing.T) {
	x, y := New(), New()
	x.Put("/a", file(6, "x"))
	x.Begin()
	y.Put("/b", file(6, "y"))
	y.At("/a")
	checkAt(t, "E1", New(), "/a", api.Entry{})
	checkPaths(t, "E1", y, "/b")
	checkPaths(t, "E1", x, "/a")
	checkNothingRecorded(t, "E1", x)
}

func TestValue(t *testing.T) {
	for _, c := range []struct {
		e    api.Entry
		want string
	}{
		{file(6, "x"), "1:1,1:6,1:x,"},
		{api.Entry{}, ""},
		{api.Entry{Mode: 7, Data: "nothing"}, ""},
		{file(0, ""), "1:1,1:0,0:,"},
		{top, topValue},
		{link("../a"), "1:3,1:7,4:../a,"},
		{file(7, "1:1,1:6,1:x,"), "1:1,1:7,12:1:1,1:6,1:x,,"},
		{file(4, "\x00\xff"), "1:1,1:4,2:\x00\xff,"},
		{file(4, "\xc3\xa9"), "1:1,1:4,2:\xc3\xa9,"},
		{api.Entry{Kind: api.Dir, Mode: 5, Data: "d"}, "1:2,1:5,1:d,"},
		{api.Entry{Kind: 4, Mode: 8}, "1:4,1:8,0:,"},
		{api.Entry{Kind: 10, Mode: 123, Data: "0"}, "2:10,3:123,1:0,"},
		{api.Entry{Kind: math.MaxInt, Mode: math.MaxInt}, "19:9223372036854775807,19:9223372036854775807,0:,"},
		{file(6, strings.Repeat("y", 100000)), "1:1,1:6,100000:" + strings.Repeat("y", 100000) + ","},
	} {
		if got := Value(c.e); got != c.want {
			t.Errorf("E2: the Value of %+.80v is %.80q, want %.80q", c.e, got, c.want)
		}
	}
}

// treeEntries are entries of every kind and mode, with many data.
func treeEntries() []api.Entry {
	datas := []string{"", "x", ",", ":", "0", ",,", "1:", "0:,", "1:x,", "\x00", "\n", "\xff\xfe", "\xc3\xa9", "../a/", "1:1,1:6,1:x,", strings.Repeat("z", 9), strings.Repeat(",", 10), strings.Repeat(":", 101), strings.Repeat("ab", 60000)}
	var l []api.Entry
	for mode := range 8 {
		l = append(l, dir(mode))
		for _, data := range datas {
			l = append(l, file(mode, data), api.Entry{Kind: api.Link, Mode: mode, Data: data})
		}
	}
	return l
}

// checkEntry fails if Entry(s) does not return want and OK, or if it does though ok is false.
func checkEntry(t *testing.T, s string, want api.Entry, ok bool) {
	t.Helper()
	code := api.OK
	if !ok {
		want, code = api.Entry{}, api.ErrForm
	}
	if got, err := Entry(s); got != want || err != code {
		t.Fatalf("E2: Entry(%.200q) is %+.80v and %d, want %+.80v and %d", s, got, err, want, code)
	}
}

func TestEntryUndoesValue(t *testing.T) {
	checkEntry(t, "", api.Entry{}, true)
	for _, e := range treeEntries() {
		checkEntry(t, valueOf(e), e, true)
		checkEntry(t, Value(e), e, true)
	}
}

func TestEntryRefuses(t *testing.T) {
	for _, s := range []string{
		"x", "0:,", ",", ":", " ", "1", "1:", "1:1", "1:1,", "1:1,1:6", "1:1,1:6,", "1:1,1:6,:", "1:1,1:6,:,", "1:1,1:6,0", "1:1,1:6,0:", "1:1,1:6,x",
		netstrings("0", "0", ""), netstrings("0", "6", "x"), netstrings("4", "6", "x"), netstrings("9", "6", ""), netstrings("11", "6", ""), netstrings("-1", "6", ""), netstrings("", "6", ""), netstrings("a", "6", ""),
		netstrings("1", "8", ""), netstrings("1", "9", ""), netstrings("1", "-1", ""), netstrings("1", "10", ""), netstrings("1", "", ""), netstrings("1", "a", ""), netstrings("1", "/", ""), netstrings("1", ":", ""),
		netstrings("01", "6", ""), netstrings("1", "06", ""), netstrings("+1", "6", ""), netstrings("1", "+6", ""), netstrings("1", " 6", ""), netstrings("1 ", "6", ""), netstrings("/", "6", ""),
		netstrings("257", "6", ""), netstrings("1", "256", ""), "1:\xf1,1:6,0:,", "1:1,1:\xf6,0:,",
		netstrings("2", "7", "x"), netstrings("2", "7", "\x00"), netstrings("2", "7", ","), netstrings("2", "0", "0:,"),
		netstrings("1", "6"), netstrings("1"), netstrings("1", "6", "x", ""), netstrings("1", "6", "x", "y"), netstrings("1", "6", "x") + "x", netstrings("1", "6", "x") + "\n", " " + netstrings("1", "6", "x"),
		"1:1,1:6,2:x,", "1:1,1:6,0:x,", "1:1,1:6,1:x", "1:1,1:6,1:x;", "1:1,1:6,1x,", "1:1,1:6,01:x,", "1:1,1:6,+1:x,", "1:1,1:6,-1:x,", "1:1,1:6,1 :x,", "1:1,1:6, 1:x,", "1:1,1:6,1::x,", "1:1,1:6,1:x,,", "1:1,1:6,a:x,",
		"01:1,1:6,1:x,", "1:1,01:6,1:x,", "2:1,1:6,1:x,", "1:1,2:6,1:x,", "1;1,1:6,1:x,", "1:1;1:6,1:x,", "1:1,1;6,1:x,", "1:1,1:6;1:x,", "0:1,1:6,1:x,",
		"1:1,1:6,1000000000:x,", "1:1,1:6,99999999999999999999:x,", "1:1,1:6,18446744073709551617:x,", "1:1,1:6,4294967297:x,",
		strings.Repeat("1:1,", 1000), strings.Repeat(":", 1000), strings.Repeat(",", 1000), strings.Repeat("1", 1000),
	} {
		checkEntry(t, s, api.Entry{}, false)
	}
}

// TestEntryOfKindsAndModes takes all kinds and modes about those of a tree, written as Value writes numbers.
func TestEntryOfKindsAndModes(t *testing.T) {
	for kind := -30; kind <= 30; kind++ {
		for mode := -30; mode <= 30; mode++ {
			for _, data := range []string{"", "x", ",", ":"} {
				s := netstrings(strconv.Itoa(kind), strconv.Itoa(mode), data)
				ok := mode >= 0 && mode <= 7 && (kind == api.File || kind == api.Link || kind == api.Dir && data == "")
				checkEntry(t, s, api.Entry{Kind: kind, Mode: mode, Data: data}, ok)
			}
		}
	}
}

// valueForm is the form that the Value of an entry of a tree has, but for the number of its bytes.
var valueForm = regexp.MustCompile(`(?s)^1:([123]),1:([0-7]),(0|[1-9][0-9]*):(.*),$`)

// readBack returns the entry whose Value is s, as E2 defines it, or false if there is none.
func readBack(s string) (api.Entry, bool) {
	if s == "" {
		return api.Entry{}, true
	}
	m := valueForm.FindStringSubmatch(s)
	if m == nil || m[3] != strconv.Itoa(len(m[4])) || m[1] == "2" && m[4] != "" {
		return api.Entry{}, false
	}
	return api.Entry{Kind: int(m[1][0] - '0'), Mode: int(m[2][0] - '0'), Data: m[4]}, true
}

// TestEntryOfAlteredValues takes the Values of entries with a byte more, a byte less, or another one.
func TestEntryOfAlteredValues(t *testing.T) {
	for _, e := range []api.Entry{file(6, "x"), file(0, ""), file(7, "1:x,"), file(3, "0123456789a"), dir(7), dir(0), link("/a"), link("")} {
		s := valueOf(e)
		for i := range len(s) + 1 {
			checkBoth(t, s[:i])
			checkBoth(t, s[i:])
			for c := range 256 {
				checkBoth(t, s[:i]+string([]byte{byte(c)})+s[i:])
				if i < len(s) {
					checkBoth(t, s[:i]+string([]byte{byte(c)})+s[i+1:])
				}
			}
			if i < len(s) {
				checkBoth(t, s[:i]+s[i+1:])
			}
		}
	}
}

// checkBoth fails if Entry(s) is not what readBack tells.
func checkBoth(t *testing.T, s string) {
	t.Helper()
	e, ok := readBack(s)
	checkEntry(t, s, e, ok)
}

func TestAtReturnsWhatWasPut(t *testing.T) {
	x := New()
	entries := append(treeEntries(), api.Entry{Kind: 4, Mode: 8, Data: "x"}, api.Entry{Kind: -1, Mode: -1}, api.Entry{Kind: api.Dir, Mode: 7, Data: "x"}, api.Entry{Kind: math.MaxInt, Mode: math.MinInt})
	for i, e := range entries {
		p := oddPlaces()[i%len(oddPlaces())]
		x.Put(p, e)
		checkAt(t, "E4", x, p, e)
		checkAt(t, "E3", x, p, e)
	}
}

func TestNamesAreThoseOfTheChildren(t *testing.T) {
	x := stored(oddPlaces()...)
	checkNames(t, "E3", x, "", "", "\x00", " ", "-", ".", "..", "A", "a", "a-", "a.b", "a0", "a:1,", "ab", "b", "\x7f", "\x80", "\xc3\xa9", "\xff")
	checkNames(t, "E3", x, "/", "", "a")
	checkNames(t, "E3", x, "//", "")
	checkNames(t, "E3", x, "/a", "", "b", "bc")
	checkNames(t, "E3", x, "/a/", "", "b")
	checkNames(t, "E3", x, "/a/b", "c")
	checkNames(t, "E3", x, "/a/b/c", "d")
	checkNames(t, "E3", x, "/a/b/c/d")
	checkNames(t, "E3", x, "/ab", "c")
	checkNames(t, "E3", x, "a", "", "b")
	checkNames(t, "E3", x, "\xff", "x")
	checkNames(t, "E3", x, "ab")
	checkNames(t, "E3", x, "///")
	checkNames(t, "E3", x, ".")
	checkNames(t, "E3", x, "c")
}

func TestNamesWhateverIsAtThePlace(t *testing.T) {
	for _, e := range []api.Entry{{}, file(6, ""), dir(7), dir(0), link("/b"), {Kind: 9}} {
		x := New()
		x.Put("/a", e)
		x.Put("/a/y", dir(7))
		x.Put("/a/x", file(0, ""))
		x.Put("/a/z", link("q"))
		x.Put("/a/x/deep", file(6, ""))
		x.Put("/a/gone/deep", file(6, ""))
		checkNames(t, "E3", x, "/a", "x", "y", "z")
		checkNames(t, "E3", x, "/a/gone", "deep")
	}
}

func TestNamesFollowPuts(t *testing.T) {
	x := stored("/b", "/a")
	checkNames(t, "E3", x, "", "a", "b")
	x.Put("/a", api.Entry{})
	checkNames(t, "E3", x, "", "b")
	x.Put("/b", dir(0))
	x.Put("/c", link("x"))
	checkNames(t, "E3", x, "", "b", "c")
	x.Put("/b", api.Entry{})
	x.Put("/c", api.Entry{})
	checkNames(t, "E3", x, "")
}

func TestManyNamesAreSorted(t *testing.T) {
	x := New()
	var want []string
	for i := range 3000 {
		name := strconv.Itoa(i * 7919 % 3001)
		want = append(want, name)
		x.Put("/d/"+name, file(6, ""))
	}
	sort.Strings(want)
	checkNames(t, "E3", x, "/d", want...)
	for i, name := range want {
		want[i] = "/d/" + name
	}
	checkPaths(t, "E5", x, want...)
}

func TestPutReplacesAndRemoves(t *testing.T) {
	for _, p := range oddPlaces() {
		x := New()
		x.Put(p, file(6, "old"))
		x.Put(p, link("new"))
		checkAt(t, "E4", x, p, link("new"))
		checkPaths(t, "E4", x, p)
		x.Put(p, api.Entry{Kind: api.None, Mode: 5, Data: "left"})
		checkAt(t, "E4", x, p, api.Entry{})
		checkPaths(t, "E4", x)
		x.Put(p, api.Entry{})
		checkAt(t, "E4", x, p, api.Entry{})
		x.Put(p, dir(1))
		checkAt(t, "E4", x, p, dir(1))
	}
}

func TestPutHasNoEffectOnTheRoot(t *testing.T) {
	for _, e := range []api.Entry{{}, {Mode: 7}, file(6, "x"), dir(0), dir(7), link("/a"), {Kind: 9, Mode: 9}} {
		x := stored("/a")
		x.Put("", e)
		checkAt(t, "E4", x, "", top)
		checkPaths(t, "E4", x, "/a")
		checkNames(t, "E4", x, "", "a")
		x.Begin()
		x.Put("", e)
		checkAt(t, "E4", x, "", top)
		checkEnd(t, "E4", x, []api.Touch{at("", top)}, nil)
		checkAt(t, "E4", x, "", top)
		if err := x.Apply([]api.Touch{at("", link("/a")), at("", api.Entry{})}); err != api.OK {
			t.Errorf("E7: Apply at the root returned %d", err)
		}
		checkAt(t, "E4", x, "", top)
	}
}

func TestPutChangesNoOtherPlace(t *testing.T) {
	places := oddPlaces()
	for _, p := range places {
		for _, e := range []api.Entry{link("new"), {}} {
			x := stored(places...)
			x.Put(p, e)
			checkAt(t, "E8", x, "", top)
			for _, other := range places {
				want := file(6, other)
				if other == p {
					want = e
				}
				checkAt(t, "E8", x, other, want)
			}
		}
	}
}

func TestPathsAreSorted(t *testing.T) {
	places := oddPlaces()
	backwards := slices.Clone(places)
	slices.Reverse(backwards)
	x := stored(backwards...)
	x.Put("/gone", file(6, ""))
	x.Put("/gone", api.Entry{})
	x.Put("/never", api.Entry{})
	checkPaths(t, "E5", x, places...)
	x.Paths()[0] = "other"
	x.Names("")[0] = "other"
	checkPaths(t, "E5", x, places...)
}

func TestCopiesAreApart(t *testing.T) {
	x := stored("/a", "/b")
	y := x.Copy()
	checkPaths(t, "E5", y, "/a", "/b")
	checkAt(t, "E5", y, "/a", file(6, "/a"))
	checkAt(t, "E5", y, "", top)
	x.Put("/a", link("x"))
	x.Put("/x", dir(7))
	x.Put("/b", api.Entry{})
	y.Put("/y", dir(7))
	y.Put("/b", link("y"))
	checkPaths(t, "E5", x, "/a", "/x")
	checkPaths(t, "E5", y, "/a", "/b", "/y")
	checkAt(t, "E5", x, "/a", link("x"))
	checkAt(t, "E5", y, "/a", file(6, "/a"))
	checkAt(t, "E5", x, "/b", api.Entry{})
	checkAt(t, "E5", y, "/b", link("y"))
	y.Put("", api.Entry{})
	checkAt(t, "E5", y.Copy(), "", top)
	checkPaths(t, "E5", y.Copy(), "/a", "/b", "/y")
}

func TestCopyDoesNotRecord(t *testing.T) {
	x := stored("/a")
	x.Begin()
	x.At("/a")
	x.Put("/b", dir(7))
	y := x.Copy()
	checkPaths(t, "E5", y, "/a", "/b")
	y.At("/c")
	y.Names("")
	y.Put("/d", dir(7))
	checkNothingRecorded(t, "E5", y)
	y.Begin()
	y.At("/e")
	x.At("/f")
	checkEnd(t, "E6", x, []api.Touch{at("/a", file(6, "/a")), at("/f", api.Entry{})}, []api.Touch{at("/b", dir(7))})
	checkEnd(t, "E6", y, []api.Touch{at("/e", api.Entry{})}, nil)
}

func TestCopyDoesNotChangeWhatWasThereAtBegin(t *testing.T) {
	x := stored("/a")
	x.Begin()
	y := x.Copy()
	y.Put("/a", link("y"))
	y.Put("/b", link("y"))
	x.At("/a")
	x.Names("")
	checkEnd(t, "E6", x, []api.Touch{names("", "a"), at("/a", file(6, "/a"))}, nil)
}

func TestNothingIsRecordedWithoutBegin(t *testing.T) {
	x := stored("/a")
	use := func() {
		x.At("/a")
		x.Names("")
		x.Put("/a", dir(7))
		x.Apply([]api.Touch{at("/b", dir(7))})
	}
	use()
	checkNothingRecorded(t, "E6", x)
	checkNothingRecorded(t, "E6", x)
	use()
	x.Begin()
	checkNothingRecorded(t, "E6", x)
	use()
	checkNothingRecorded(t, "E6", x)
	x.Begin()
	use()
	checkEnd(t, "E6", x, []api.Touch{names("", "a", "b"), at("/a", dir(7))}, []api.Touch{at("/a", dir(7)), at("/b", dir(7))})
	checkNothingRecorded(t, "E6", x)
	use()
	checkNothingRecorded(t, "E6", x)
}

func TestBeginDiscards(t *testing.T) {
	x := stored("/a")
	x.Begin()
	x.At("/a")
	x.Names("")
	x.Put("/a", link("x"))
	x.Begin()
	x.At("/a")
	x.Put("/b", dir(7))
	checkEnd(t, "E6", x, []api.Touch{at("/a", link("x"))}, []api.Touch{at("/b", dir(7))})
}

func TestReadsAreInOrder(t *testing.T) {
	x := stored("/a", "/a/b", "/a-")
	x.Begin()
	for range 2 {
		x.Names("/a")
		x.At("/b")
		x.At("/a")
		x.At("/a-")
		x.Names("")
		x.At("/a/b")
		x.At("")
		x.Names("/a/b")
		x.Names("/none")
		x.At("relative")
	}
	checkEnd(t, "E6", x, []api.Touch{
		at("", top), names("", "a", "a-"),
		at("/a", file(6, "/a")), names("/a", "b"),
		at("/a-", file(6, "/a-")),
		at("/a/b", file(6, "/a/b")), names("/a/b"),
		at("/b", api.Entry{}),
		names("/none"),
		at("relative", api.Entry{}),
	}, nil)
}

// TestManyTouchesAreInOrder takes each odd place once and twice, in an order that is not theirs.
func TestManyTouchesAreInOrder(t *testing.T) {
	places := append([]string{""}, oddPlaces()...)
	x := New()
	x.Begin()
	var reads, writes []api.Touch
	for i := range places {
		p := places[i*17%len(places)]
		x.Names(p)
		x.At(p)
	}
	for i := range places {
		x.Put(places[i*23%len(places)], file(4, "new"))
	}
	for _, p := range places {
		e := api.Entry{}
		if p == "" {
			e = top
		} else {
			writes = append(writes, at(p, file(4, "new")))
		}
		reads = append(reads, at(p, e), names(p))
	}
	checkEnd(t, "E6", x, reads, writes)
}

func TestReadsTellWhatWasThereAtBegin(t *testing.T) {
	x := stored("/a", "/b", "/d/x")
	x.Begin()
	x.At("/a")
	x.Put("/a", link("new"))
	x.At("/a")
	x.At("/c")
	x.Put("/c", dir(7))
	x.At("/b")
	x.Put("/b", api.Entry{})
	x.Names("/d")
	x.Put("/d/x", api.Entry{})
	x.Put("/d/y", dir(7))
	checkEnd(t, "E6", x,
		[]api.Touch{at("/a", file(6, "/a")), at("/b", file(6, "/b")), at("/c", api.Entry{}), names("/d", "x")},
		[]api.Touch{at("/a", link("new")), at("/b", api.Entry{}), at("/c", dir(7)), at("/d/x", api.Entry{}), at("/d/y", dir(7))})
}

func TestWhatWasPutIsNotRead(t *testing.T) {
	x := stored("/a", "/b")
	x.Begin()
	x.Put("/a", dir(7))
	x.Put("/b", api.Entry{})
	x.Put("/c", link("c"))
	x.Put("/d", api.Entry{})
	for _, p := range []string{"/a", "/b", "/c", "/d"} {
		x.At(p)
	}
	checkEnd(t, "E6", x, nil, []api.Touch{at("/a", dir(7)), at("/b", api.Entry{}), at("/c", link("c")), at("/d", api.Entry{})})
	// A place that was put ahead of Begin is read like any other.
	x.Begin()
	x.At("/a")
	x.At("/b")
	checkEnd(t, "E6", x, []api.Touch{at("/a", dir(7)), at("/b", api.Entry{})}, nil)
}

func TestNamesAreReadBehindPuts(t *testing.T) {
	x := stored("/a", "/a/old", "/a/gone")
	x.Begin()
	x.Put("/a", dir(7))
	x.Put("/a/new", dir(7))
	x.Put("/a/gone", api.Entry{})
	checkNames(t, "E3", x, "/a", "new", "old")
	checkNames(t, "E3", x, "/a/new")
	checkNames(t, "E3", x, "", "a")
	checkEnd(t, "E6", x,
		[]api.Touch{names("", "a"), names("/a", "gone", "old"), names("/a/new")},
		[]api.Touch{at("/a", dir(7)), at("/a/gone", api.Entry{}), at("/a/new", dir(7))})
}

func TestNamesAndEntriesAreReadApart(t *testing.T) {
	x := stored("/a/b")
	x.Begin()
	x.Names("/a")
	checkEnd(t, "E6", x, []api.Touch{names("/a", "b")}, nil)
	x.Begin()
	x.At("/a")
	checkEnd(t, "E6", x, []api.Touch{at("/a", api.Entry{})}, nil)
	x = stored("/", "/a/")
	x.Begin()
	x.Names("")
	x.Names("/a")
	x.Names("/b")
	checkEnd(t, "E6", x, []api.Touch{names("", ""), names("/a", ""), names("/b")}, nil)
}

func TestWritesTellWhatIsThereNow(t *testing.T) {
	x := stored("/a", "/b", "/d")
	x.Begin()
	x.Put("/d", file(6, "/d"))
	x.Put("/c", dir(7))
	x.Put("/a", link("first"))
	x.Put("/a", link("second"))
	x.Put("/b", api.Entry{})
	x.Put("/e", dir(7))
	x.Put("/e", api.Entry{})
	x.Put("/c", dir(1))
	x.Put("/f", api.Entry{Mode: 3, Data: "nothing"})
	x.Put("/b", file(6, "/b"))
	checkEnd(t, "E6", x, nil, []api.Touch{
		at("/a", link("second")), at("/b", file(6, "/b")), at("/c", dir(1)), at("/d", file(6, "/d")), at("/e", api.Entry{}), at("/f", api.Entry{}),
	})
}

func TestOtherCallsRecordNothing(t *testing.T) {
	x := stored("/a", "/b/c")
	x.Begin()
	x.Paths()
	x.Copy()
	x.Agrees([]api.Touch{at("/a", file(6, "/a")), names("", "a"), at("/none", api.Entry{}), names("/b", "c")})
	x.Agrees([]api.Touch{at("/a", api.Entry{}), names("/b")})
	x.Apply(nil)
	x.Apply([]api.Touch{at("/a", dir(7)), names("/b")})
	checkNothingRecorded(t, "E6", x)
}

func TestApplyIsRecordedAsPuts(t *testing.T) {
	x := stored("/a")
	x.Begin()
	if err := x.Apply([]api.Touch{at("/b", dir(7)), at("/a", api.Entry{})}); err != api.OK {
		t.Fatalf("E7: Apply returned %d", err)
	}
	x.At("/a")
	checkEnd(t, "E6", x, nil, []api.Touch{at("/a", api.Entry{}), at("/b", dir(7))})
}

func TestAgrees(t *testing.T) {
	x := stored("/a", "/b", "/d/x", "/d/y")
	x.Put("/l", link("/a"))
	good := []api.Touch{
		at("", top), names("", "a", "b", "l"), at("/a", file(6, "/a")), names("/a"), at("/l", link("/a")), at("/none", api.Entry{}),
		names("/none"), names("/d", "x", "y"), at("/d", api.Entry{}), at("/a", file(6, "/a")),
	}
	bad := []api.Touch{
		at("", api.Entry{}), at("", dir(6)), names(""), names("", "a", "b"), names("", "b", "a", "l"), names("", "a", "b", "d", "l"), names("", "a", "b", "l", "m"),
		at("/a", api.Entry{}), at("/a", file(5, "/a")), at("/a", file(6, "")), at("/a", link("/a")), at("/none", file(6, "")), at("/d", dir(7)),
		names("/a", ""), names("/d", "x"), names("/d"), {Path: "/a", Value: "x"}, {Path: "/a", Value: "01:1,1:6,2:/a,"}, {Path: "/none", Value: "0:,"}, {Path: "/none", Value: "1:0,1:0,0:,"},
		{Path: "/d", Names: true, Value: "x,y"}, {Path: "/none", Names: true, Value: "x"}, {Path: "/a", Names: true, Value: valueOf(file(6, "/a"))}, {Path: "", Value: netstrings("a", "b", "l")},
	}
	if !x.Agrees(nil) || !x.Agrees([]api.Touch{}) || !x.Agrees(good) {
		t.Fatal("E7: a store does not agree with what is there")
	}
	for _, b := range bad {
		if x.Agrees([]api.Touch{b}) {
			t.Errorf("E7: a store agrees with %q", told([]api.Touch{b}))
		}
		for i := range len(good) + 1 {
			if l := slices.Insert(slices.Clone(good), i, b); x.Agrees(l) {
				t.Errorf("E7: a store agrees with %q at place %d of a list", told([]api.Touch{b}), i)
			}
		}
	}
	for i, g := range good {
		if !x.Agrees([]api.Touch{g}) {
			t.Errorf("E7: a store does not agree with touch %d", i)
		}
	}
}

func TestAgreesFollowsPuts(t *testing.T) {
	x := stored("/a")
	l := []api.Touch{at("/a", file(6, "/a")), names("", "a")}
	for _, change := range []struct {
		path string
		e    api.Entry
		want bool
	}{
		{"/a/b", file(6, ""), true}, {"/b", file(6, ""), false}, {"/b", api.Entry{}, true}, {"/a", file(4, "/a"), false}, {"/a", file(6, "/a"), true},
		{"/a", api.Entry{}, false}, {"", api.Entry{}, false}, {"/a", file(6, "/a"), true},
	} {
		x.Put(change.path, change.e)
		if x.Agrees(l) != change.want {
			t.Fatalf("E7: after Put(%q, %v) Agrees is not %v", change.path, change.e, change.want)
		}
	}
	// What is there now counts, while the store records as well.
	x.Begin()
	x.Put("/a", link("new"))
	if x.Agrees(l) || !x.Agrees([]api.Touch{at("/a", link("new"))}) {
		t.Fatal("E7: Agrees does not ask what is there now")
	}
}

func TestApply(t *testing.T) {
	x := stored("/a", "/b", "/c")
	l := []api.Touch{
		at("/d", link("first")), at("/b", api.Entry{}), at("/c", api.Entry{}), at("/a", file(2, "new")), at("/d", link("second")), at("/none", api.Entry{}),
		at("", api.Entry{}), at("/c", dir(3)), at("/e", dir(7)), at("/e", api.Entry{}), at("x//y", file(0, "")),
	}
	if err := x.Apply(l); err != api.OK {
		t.Fatalf("E7: Apply returned %d", err)
	}
	checkPaths(t, "E7", x, "/a", "/c", "/d", "x//y")
	checkAt(t, "E7", x, "/a", file(2, "new"))
	checkAt(t, "E7", x, "/b", api.Entry{})
	checkAt(t, "E7", x, "/c", dir(3))
	checkAt(t, "E7", x, "/d", link("second"))
	checkAt(t, "E7", x, "/e", api.Entry{})
	checkAt(t, "E7", x, "x//y", file(0, ""))
	checkAt(t, "E7", x, "", top)
	for _, none := range [][]api.Touch{nil, {}} {
		if err := x.Apply(none); err != api.OK {
			t.Errorf("E7: Apply of an empty list returned %d", err)
		}
	}
	checkPaths(t, "E7", x, "/a", "/c", "/d", "x//y")
}

func TestApplyRefuses(t *testing.T) {
	good := []api.Touch{at("/a", dir(7)), at("/b", api.Entry{}), at("/new", link("x"))}
	for _, b := range []api.Touch{
		{Path: "/c", Value: "x"}, {Path: "/c", Value: "0:,"}, {Path: "/c", Value: netstrings("1", "8", "")}, {Path: "/c", Value: netstrings("0", "0", "")}, {Path: "/c", Value: netstrings("4", "0", "")},
		{Path: "/c", Value: netstrings("2", "7", "x")}, {Path: "", Value: "x"}, {Path: "", Names: true}, names("/c"), names("/c", "x"), {Path: "/c", Names: true, Value: valueOf(dir(7))}, {Names: true, Value: topValue},
	} {
		for i := range len(good) + 1 {
			x := stored("/a", "/b", "/c")
			x.Begin()
			if err := x.Apply(slices.Insert(slices.Clone(good), i, b)); err != api.ErrForm {
				t.Fatalf("E7: Apply of %q at place %d returned %d", told([]api.Touch{b}), i, err)
			}
			checkNothingRecorded(t, "E7", x)
			checkPaths(t, "E7", x, "/a", "/b", "/c")
			for _, p := range x.Paths() {
				checkAt(t, "E7", x, p, file(6, p))
			}
		}
	}
}

func TestListsThatAreGivenStay(t *testing.T) {
	x := stored("/a", "/b")
	spare := []api.Touch{at("/z", dir(1)), at("/b", file(6, "/b")), names("", "a", "b"), at("/a", dir(7)), at("/y", dir(2))}
	want := slices.Clone(spare)
	x.Begin()
	x.Agrees(spare[1:3])
	x.Apply(spare[3:4])
	x.Apply(spare[2:4])
	x.End()
	if !slices.Equal(spare, want) {
		t.Errorf("R3: a list became %q, was %q", told(spare), told(want))
	}
}

func TestExample(t *testing.T) {
	x := New()
	x.Put("/a", file(6, "x"))
	checkNames(t, "E3", x, "", "a")
	if got := Value(x.At("/a")); got != "1:1,1:6,1:x," {
		t.Errorf("E2: the Value is %q", got)
	}
}

// an event is a call of a store.
type event struct {
	kind string // "at", "names" or "put"
	path string
	e    api.Entry
}

// a model is what a store must be, told by the calls since New, one after the other.
type model struct {
	events []event
	begin  int // the number of events at Begin, or -1 without one
}

// entry returns what is at a place after the first n events.
func (m *model) entry(path string, n int) api.Entry {
	if path == "" {
		return top
	}
	for i := n - 1; i >= 0; i-- {
		if v := m.events[i]; v.kind == "put" && v.path == path {
			if v.e.Kind == api.None {
				return api.Entry{}
			}
			return v.e
		}
	}
	return api.Entry{}
}

// names returns the names of a place after the first n events, of those that the given places are children with.
func (m *model) names(path string, n int, places []string) []string {
	var l []string
	for _, p := range places {
		i := strings.LastIndex(p, "/")
		if i >= 0 && p[:i] == path && m.entry(p, n).Kind != api.None {
			l = append(l, p[i+1:])
		}
	}
	sort.Strings(l)
	return l
}

// reads returns the reads since Begin: for each place in order, its entry and its names.
func (m *model) reads(places []string) []api.Touch {
	var l []api.Touch
	for _, p := range places {
		entry, children, put := false, false, false
		for _, v := range m.events[m.begin:] {
			if v.path == p {
				put = put || v.kind == "put" && p != ""
				entry = entry || v.kind == "at" && !put
				children = children || v.kind == "names"
			}
		}
		if entry {
			l = append(l, at(p, m.entry(p, m.begin)))
		}
		if children {
			l = append(l, names(p, m.names(p, m.begin, places)...))
		}
	}
	return l
}

// writes returns the writes since Begin.
func (m *model) writes(places []string) []api.Touch {
	var l []api.Touch
	for _, p := range places {
		for _, v := range m.events[m.begin:] {
			if v.path == p && v.kind == "put" && p != "" {
				l = append(l, at(p, m.entry(p, len(m.events))))
				break
			}
		}
	}
	return l
}

// numbers returns a function that returns the same sequence of numbers in every run.
func numbers(seed int) func(below int) int {
	state := uint64(seed)
	return func(below int) int {
		state = state*6364136223846793005 + 1442695040888963407
		return int(state>>33) % below
	}
}

// fewPlaces are places of which the one is often above, or the beginning of, the other, in ascending order.
func fewPlaces() []string {
	return []string{"", "/", "//", "/a", "/a-", "/a/", "/a/b", "/a/b/c", "/ab", "/b", "a", "a/b"}
}

// someEntry returns one of a few entries.
func someEntry(next func(int) int) api.Entry {
	return []api.Entry{{}, {}, {Mode: 1, Data: "none"}, file(6, ""), file(6, "x"), file(4, "y"), dir(7), dir(0), link("/a"), link("x/")}[next(10)]
}

// step makes one call of x and tells it to m; it fails if the call does not return what m says.
func (m *model) step(t *testing.T, x *Store, next func(int) int) {
	t.Helper()
	places := fewPlaces()
	p := places[next(len(places))]
	switch next(5) {
	case 0:
		m.events = append(m.events, event{kind: "at", path: p})
		checkAt(t, "E8", x, p, m.entry(p, len(m.events)))
	case 1:
		m.events = append(m.events, event{kind: "names", path: p})
		checkNames(t, "E3", x, p, m.names(p, len(m.events), places)...)
	case 2, 3:
		e := someEntry(next)
		m.events = append(m.events, event{kind: "put", path: p, e: e})
		x.Put(p, e)
	case 4:
		var want []string
		for _, q := range places[1:] {
			if m.entry(q, len(m.events)).Kind != api.None {
				want = append(want, q)
			}
		}
		checkPaths(t, "E5", x, want...)
	}
}

// TestSequences holds a store against the model, in sequences of calls.
func TestSequences(t *testing.T) {
	for seed := range 300 {
		next := numbers(seed)
		x, m := New(), &model{begin: -1}
		for range 200 {
			switch next(20) {
			case 0:
				x.Begin()
				m.begin = len(m.events)
			case 1:
				if m.begin < 0 {
					checkNothingRecorded(t, "E6", x)
				} else {
					checkEnd(t, "E6", x, m.reads(fewPlaces()), m.writes(fewPlaces()))
				}
				m.begin = -1
			default:
				m.step(t, x, next)
			}
		}
	}
}

// use makes calls of x that hang on nothing but what they return.
func use(x *Store, seed int) {
	next := numbers(seed)
	places := fewPlaces()
	for range 12 {
		p := places[next(len(places))]
		switch next(4) {
		case 0:
			e := x.At(p)
			e.Data += "+"
			if e.Kind == api.File {
				x.Put(p, e)
			} else {
				x.Put(p+"/b", someEntry(next))
			}
		case 1:
			for _, name := range x.Names(p) {
				x.Put(p+"/"+name, someEntry(next))
			}
		default:
			x.Put(p, someEntry(next))
		}
	}
}

// TestReadsAndWrites holds the theorem: at Begin the store agrees with the reads, and on every store that does, the writes lead to the same places.
func TestReadsAndWrites(t *testing.T) {
	others := 0
	for seed := range 3000 {
		next := numbers(seed + 1)
		x := New()
		for range 8 {
			x.Put(fewPlaces()[next(len(fewPlaces()))], someEntry(next))
		}
		begin := x.Copy()
		x.Begin()
		use(x, seed)
		reads, writes := x.End()
		if !begin.Agrees(reads) {
			t.Fatalf("E8: seed %d: the store at Begin does not agree with the reads %q", seed, told(reads))
		}
		other := begin.Copy()
		other.Put(fewPlaces()[next(len(fewPlaces()))], someEntry(next))
		for _, y := range []*Store{begin, other} {
			if !y.Agrees(reads) {
				continue
			}
			others++
			again := y.Copy()
			again.Begin()
			use(again, seed)
			checkEnd(t, "E8", again, reads, writes)
			if err := y.Apply(writes); err != api.OK || !y.Agrees(writes) {
				t.Fatalf("E8: seed %d: the writes %q are not there (error %d)", seed, told(writes), err)
			}
			if !slices.Equal(y.Paths(), again.Paths()) || !again.Agrees(writes) {
				t.Fatalf("E8: seed %d: the places are %q, want %q", seed, y.Paths(), again.Paths())
			}
		}
	}
	if others < 4000 {
		t.Errorf("E8: only %d stores agreed", others)
	}
}
