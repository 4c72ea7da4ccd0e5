package vars_test

import (
	"reflect"
	"slices"
	"testing"

	"scullion/api"
	"scullion/vars"
)

// list returns a list of variables.
func list(l ...api.Var) []api.Var { return l }

// plain returns a variable that is neither exported nor read-only.
func plain(name, value string) api.Var { return api.Var{Name: name, Value: value} }

// sample returns a list with one variable for each way to be marked.
func sample() []api.Var {
	return list(
		api.Var{Name: "A", Value: "1"},
		api.Var{Name: "E", Value: "2", Exported: true},
		api.Var{Name: "R", Value: "3", ReadOnly: true},
		api.Var{Name: "X", Value: "4", Exported: true, ReadOnly: true},
	)
}

// with returns the sample with something else at an index.
func with(at int, v api.Var) []api.Var {
	l := sample()
	l[at] = v
	return l
}

// validNames are names of variables, in ascending order.
var validNames = []string{"A", "A0", "AB", "A_", "Aa", "B", "PATH", "Z", "_", "_0", "_A", "__", "_a", "a", "a1", "aB", "a_", "ab", "z", "z09AZaz_"}

// invalidNames are other texts.
var invalidNames = []string{
	"", "0", "1", "9", "1a", "0_", "#", "?", "@", "*", "-", "!", "$", "$a", "a$", "a$b", "${a}", "a b", " a", "a ", "\ta", "a\n", "a-b", "a.b", "a/b",
	"a=", "a=b", "=", "a:", "a:=b", "a-", "a:-b", "a?", "a+", "a%", "a#", "#a", "a##", "a}", "a}b", "a}${b", "a}${a", "}", "{", "{a}", "a{", "a{}", "a}{",
	"'a'", "'a", "a'", "\"a\"", "a\"", "\\a", "a\\", "a\\b", "`a`", "$(a)", "a$(b)", "a$((1))", "a$(", "(a)", "a[0]", "a,b", "a;b", "a&b", "a|b", "a<b", "~", "a~",
	"é", "aé", "a\xc3", "\xff", "a\xff", "\x00", "a\x00", "\x00a", "ａ", "α", "a١", "@a", "[", "a[", "^", "a@", "A`", "AZ[", "_^",
}

// checkList fails unless a call returned a list and no error.
func checkList(t *testing.T, promise, call string, got []api.Var, f api.Errno, want []api.Var) {
	t.Helper()
	if f != api.OK || !slices.Equal(got, want) {
		t.Errorf("%s: %s: %v and %d, want %v", promise, call, got, f, want)
	}
}

// checkRefused fails unless a call returned an error and no list.
func checkRefused(t *testing.T, promise, call string, got []api.Var, f, want api.Errno) {
	t.Helper()
	if f != want || len(got) != 0 {
		t.Errorf("%s: %s: %v and %d, want %d", promise, call, got, f, want)
	}
}

func TestGet(t *testing.T) {
	for _, v := range sample() {
		if got, found := vars.Get(sample(), v.Name); !found || got != v {
			t.Errorf("L1: Get %q: %v %t", v.Name, got, found)
		}
	}
	for _, name := range []string{"", "@", "B", "D", "EE", "E0", "F", "Q", "RR", "S", "W", "XX", "Y", "Z", "a", "e", "A=1", "A=", " A", "A ", "\xff"} {
		if got, found := vars.Get(sample(), name); found || got != (api.Var{}) {
			t.Errorf("L1: Get %q: %v %t", name, got, found)
		}
	}
	for _, l := range [][]api.Var{nil, {}} {
		for _, name := range []string{"", "A", "0"} {
			if got, found := vars.Get(l, name); found || got != (api.Var{}) {
				t.Errorf("L1: Get %q of no variables: %v %t", name, got, found)
			}
		}
	}
}

func TestGetEmptyValue(t *testing.T) {
	for _, v := range []api.Var{{Name: "a"}, {Name: "a", Exported: true}, {Name: "a", ReadOnly: true}} {
		if got, found := vars.Get(list(v), "a"); !found || got != v {
			t.Errorf("L1: %v: %v %t", v, got, found)
		}
	}
}

func TestSet(t *testing.T) {
	for _, c := range []struct {
		l           []api.Var
		name, value string
		want        []api.Var
	}{
		{nil, "a", "1", list(plain("a", "1"))},
		{list(), "a", "", list(plain("a", ""))},
		{list(plain("a", "1")), "a", "2", list(plain("a", "2"))},
		{list(plain("a", "1")), "a", "1", list(plain("a", "1"))},
		{list(plain("a", "1")), "a", "", list(plain("a", ""))},
		{list(plain("a", "1")), "b", "2", list(plain("a", "1"), plain("b", "2"))},
		{list(plain("b", "1")), "a", "2", list(plain("a", "2"), plain("b", "1"))},
		{list(plain("a", "1"), plain("c", "3")), "b", "2", list(plain("a", "1"), plain("b", "2"), plain("c", "3"))},
		{list(plain("a", "1"), plain("b", "2"), plain("c", "3")), "b", "x", list(plain("a", "1"), plain("b", "x"), plain("c", "3"))},
		{list(plain("a", "1"), plain("aa", "2")), "a0", "x", list(plain("a", "1"), plain("a0", "x"), plain("aa", "2"))},
		{list(plain("A", "1"), plain("a", "2")), "_", "x", list(plain("A", "1"), plain("_", "x"), plain("a", "2"))},
		{nil, "a", "a=b c\n'\"$x`\\\x00\xffé", list(plain("a", "a=b c\n'\"$x`\\\x00\xffé"))},
		{sample(), "A", "x", with(0, plain("A", "x"))},
		{sample(), "E", "x", with(1, api.Var{Name: "E", Value: "x", Exported: true})},
		{sample(), "E", "", with(1, api.Var{Name: "E", Exported: true})},
		{sample(), "a", "x", append(sample(), plain("a", "x"))},
		{sample(), "X0", "x", append(sample(), plain("X0", "x"))},
	} {
		got, f := vars.Set(c.l, c.name, c.value)
		checkList(t, "L2", "Set "+c.name, got, f, c.want)
	}
}

func TestSetReadOnly(t *testing.T) {
	for _, name := range []string{"R", "X"} {
		for _, value := range []string{"", "x", "3", "4"} {
			got, f := vars.Set(sample(), name, value)
			checkRefused(t, "L2", "Set "+name, got, f, api.ErrRead)
		}
	}
	only := list(api.Var{Name: "a", ReadOnly: true})
	got, f := vars.Set(only, "a", "")
	checkRefused(t, "L2", "Set a", got, f, api.ErrRead)
	got, f = vars.Set(only, "b", "1")
	checkList(t, "L2", "Set b", got, f, append(only, plain("b", "1")))
}

func TestMark(t *testing.T) {
	for _, c := range []struct {
		l                  []api.Var
		name               string
		exported, readOnly bool
		want               []api.Var
	}{
		{nil, "a", false, false, list(plain("a", ""))},
		{nil, "a", true, false, list(api.Var{Name: "a", Exported: true})},
		{nil, "a", false, true, list(api.Var{Name: "a", ReadOnly: true})},
		{list(), "a", true, true, list(api.Var{Name: "a", Exported: true, ReadOnly: true})},
		{list(plain("b", "1")), "a", true, false, list(api.Var{Name: "a", Exported: true}, plain("b", "1"))},
		{list(plain("b", "1")), "c", false, true, list(plain("b", "1"), api.Var{Name: "c", ReadOnly: true})},
		{list(plain("a", "1"), plain("c", "2")), "b", false, false, list(plain("a", "1"), plain("b", ""), plain("c", "2"))},
		{sample(), "A", false, false, sample()},
		{sample(), "A", true, false, with(0, api.Var{Name: "A", Value: "1", Exported: true})},
		{sample(), "A", false, true, with(0, api.Var{Name: "A", Value: "1", ReadOnly: true})},
		{sample(), "A", true, true, with(0, api.Var{Name: "A", Value: "1", Exported: true, ReadOnly: true})},
		{sample(), "E", false, false, sample()},
		{sample(), "E", true, false, sample()},
		{sample(), "E", false, true, with(1, api.Var{Name: "E", Value: "2", Exported: true, ReadOnly: true})},
		{sample(), "E", true, true, with(1, api.Var{Name: "E", Value: "2", Exported: true, ReadOnly: true})},
		{sample(), "R", false, false, sample()},
		{sample(), "R", true, false, with(2, api.Var{Name: "R", Value: "3", Exported: true, ReadOnly: true})},
		{sample(), "R", false, true, sample()},
		{sample(), "R", true, true, with(2, api.Var{Name: "R", Value: "3", Exported: true, ReadOnly: true})},
		{sample(), "X", false, false, sample()},
		{sample(), "X", true, false, sample()},
		{sample(), "X", false, true, sample()},
		{sample(), "X", true, true, sample()},
	} {
		got, f := vars.Mark(c.l, c.name, c.exported, c.readOnly)
		checkList(t, "L3", "Mark "+c.name, got, f, c.want)
	}
}

func TestUnset(t *testing.T) {
	for _, c := range []struct {
		l    []api.Var
		name string
		want []api.Var
	}{
		{nil, "a", nil},
		{list(), "a", nil},
		{list(plain("a", "1")), "a", nil},
		{list(api.Var{Name: "a", Exported: true}), "a", nil},
		{list(plain("a", "1")), "b", list(plain("a", "1"))},
		{list(plain("a", "1"), plain("b", "2"), plain("c", "3")), "a", list(plain("b", "2"), plain("c", "3"))},
		{list(plain("a", "1"), plain("b", "2"), plain("c", "3")), "b", list(plain("a", "1"), plain("c", "3"))},
		{list(plain("a", "1"), plain("b", "2"), plain("c", "3")), "c", list(plain("a", "1"), plain("b", "2"))},
		{list(plain("a", "1"), plain("ab", "2")), "aa", list(plain("a", "1"), plain("ab", "2"))},
		{sample(), "A", sample()[1:]},
		{sample(), "E", slices.Delete(sample(), 1, 2)},
		{sample(), "B", sample()},
		{sample(), "Z", sample()},
		{sample(), "r", sample()},
	} {
		got, f := vars.Unset(c.l, c.name)
		checkList(t, "L4", "Unset "+c.name, got, f, c.want)
	}
	for _, name := range []string{"R", "X"} {
		got, f := vars.Unset(sample(), name)
		checkRefused(t, "L4", "Unset "+name, got, f, api.ErrRead)
	}
}

func TestValidNames(t *testing.T) {
	var l []api.Var
	for _, name := range validNames {
		got, f := vars.Set(nil, name, "1")
		checkList(t, "L2", "Set "+name, got, f, list(plain(name, "1")))
		got, f = vars.Mark(nil, name, true, false)
		checkList(t, "L3", "Mark "+name, got, f, list(api.Var{Name: name, Exported: true}))
		l = append(l, plain(name, "1"))
	}
	var up, down []api.Var
	for i := range validNames {
		up, _ = vars.Set(up, validNames[i], "1")
		down, _ = vars.Mark(down, validNames[len(validNames)-1-i], false, false)
		down, _ = vars.Set(down, validNames[len(validNames)-1-i], "1")
	}
	checkList(t, "L2", "Set of all names", up, api.OK, l)
	checkList(t, "L3", "Mark of all names", down, api.OK, l)
}

func TestInvalidNames(t *testing.T) {
	for _, l := range [][]api.Var{nil, sample(), list(plain("a", "1"))} {
		for _, name := range invalidNames {
			got, f := vars.Set(l, name, "1")
			checkRefused(t, "L2", "Set "+name, got, f, api.ErrArg)
			for marks := range 4 {
				got, f = vars.Mark(l, name, marks&1 != 0, marks&2 != 0)
				checkRefused(t, "L3", "Mark "+name, got, f, api.ErrArg)
			}
			got, f = vars.Unset(l, name)
			checkList(t, "L4", "Unset "+name, got, f, l)
			if v, found := vars.Get(l, name); found || v != (api.Var{}) {
				t.Errorf("L1: Get %q: %v %t", name, v, found)
			}
		}
	}
}

// TestAllShortNames asks for all names of up to two bytes.
func TestAllShortNames(t *testing.T) {
	first := func(c int) bool { return 'a' <= c && c <= 'z' || 'A' <= c && c <= 'Z' || c == '_' }
	check := func(name string, valid bool) {
		l, f := vars.Set(nil, name, "")
		m, g := vars.Mark(nil, name, false, false)
		if valid != (f == api.OK) || valid != (g == api.OK) || valid != (len(l) == 1) || valid != (len(m) == 1) {
			t.Errorf("L2, L3: %q: %v %d, %v %d", name, l, f, m, g)
		}
	}
	for a := range 256 {
		check(string([]byte{byte(a)}), first(a))
		for b := range 256 {
			check(string([]byte{byte(a), byte(b)}), first(a) && (first(b) || '0' <= b && b <= '9'))
		}
	}
}

func TestEnviron(t *testing.T) {
	for _, c := range []struct {
		l    []api.Var
		want []string
	}{
		{nil, nil},
		{list(), nil},
		{list(plain("a", "1"), api.Var{Name: "b", Value: "2", ReadOnly: true}), nil},
		{list(api.Var{Name: "a", Exported: true}), []string{"a="}},
		{list(api.Var{Name: "a", Value: "b=c\n=", Exported: true}), []string{"a=b=c\n="}},
		{list(api.Var{Name: "_", Value: "\x00\xff é", Exported: true, ReadOnly: true}), []string{"_=\x00\xff é"}},
		{list(api.Var{Name: "B", Value: "2", Exported: true}, api.Var{Name: "a", Value: "1", Exported: true}), []string{"B=2", "a=1"}},
		{sample(), []string{"E=2", "X=4"}},
	} {
		if got := vars.Environ(c.l); !slices.Equal(got, c.want) {
			t.Errorf("L5: %v: %q, want %q", c.l, got, c.want)
		}
	}
}

func TestExample(t *testing.T) {
	l, _ := vars.Set(nil, "a", "1")
	l, _ = vars.Mark(l, "a", true, false)
	if got := vars.Environ(l); !slices.Equal(got, []string{"a=1"}) {
		t.Errorf("example 1: %q", got)
	}
}

// TestMemory writes into a list that was returned, and looks at the one that was given, with the memory behind it.
func TestMemory(t *testing.T) {
	for _, name := range []string{"", "0", "A", "B", "E", "R", "S", "X", "Z"} {
		given := append(sample(), plain("m", "1"), plain("n", "2"))
		want := slices.Clone(given)
		l := given[:4]
		set, _ := vars.Set(l, name, "x")
		marked, _ := vars.Mark(l, name, true, true)
		unset, _ := vars.Unset(l, name)
		vars.Get(l, name)
		vars.Environ(l)
		for _, got := range [][]api.Var{set, marked, unset} {
			clear(got)
			_ = append(got, plain("y", "z"))
		}
		if !slices.Equal(given, want) {
			t.Errorf("R3: after calls with %q: %v, want %v", name, given, want)
		}
	}
}

// TestRepeated calls twice with other calls between.
func TestRepeated(t *testing.T) {
	calls := func() []any {
		l, f := vars.Set(sample(), "B", "x")
		m, g := vars.Mark(sample(), "A", true, true)
		n, h := vars.Unset(sample(), "A")
		v, found := vars.Get(sample(), "E")
		return []any{l, f, m, g, n, h, v, found, vars.Environ(sample())}
	}
	first := calls()
	vars.Set(nil, "B", "y")
	vars.Set(sample(), "R", "y")
	vars.Mark(nil, "E", true, true)
	if again := calls(); !reflect.DeepEqual(first, again) {
		t.Errorf("R4: %v, then %v", first, again)
	}
}
