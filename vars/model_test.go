package vars_test

import (
	"maps"
	"slices"
	"testing"

	"scullion/api"
	"scullion/vars"
)

// numbers returns a function that returns the same sequence of numbers in every run.
func numbers(seed int) func(below int) int {
	state := uint64(seed)
	return func(below int) int {
		state = state*6364136223846793005 + 1442695040888963407
		return int(state>>33) % below
	}
}

// model has the variables by their names.
type model map[string]api.Var

// list returns the variables in ascending order of their names.
func (m model) list() []api.Var {
	var l []api.Var
	for _, name := range slices.Sorted(maps.Keys(m)) {
		l = append(l, m[name])
	}
	return l
}

func (m model) set(name, value string) api.Errno {
	v := m[name]
	switch {
	case slices.Contains(invalidNames, name):
		return api.ErrArg
	case v.ReadOnly:
		return api.ErrRead
	}
	m[name] = api.Var{Name: name, Value: value, Exported: v.Exported}
	return api.OK
}

func (m model) mark(name string, exported, readOnly bool) api.Errno {
	if slices.Contains(invalidNames, name) {
		return api.ErrArg
	}
	v := m[name]
	v.Name = name
	if exported {
		v.Exported = true
	}
	if readOnly {
		v.ReadOnly = true
	}
	m[name] = v
	return api.OK
}

func (m model) unset(name string) api.Errno {
	if m[name].ReadOnly {
		return api.ErrRead
	}
	delete(m, name)
	return api.OK
}

func (m model) environ() []string {
	var env []string
	for _, v := range m {
		if v.Exported {
			env = append(env, v.Name+"="+v.Value)
		}
	}
	slices.SortFunc(env, func(a, b string) int { return compareNames(a, b) })
	return env
}

// compareNames compares what stands before the first `=` of two texts.
func compareNames(a, b string) int {
	cut := func(s string) string { return s[:slices.Index([]byte(s), '=')] }
	switch a, b := cut(a), cut(b); {
	case a < b:
		return -1
	case a > b:
		return 1
	}
	return 0
}

// anyName returns a name of few, which is invalid from time to time.
func anyName(next func(int) int) string {
	if next(8) == 0 {
		return invalidNames[next(len(invalidNames))]
	}
	return validNames[next(len(validNames))]
}

// step calls one function for a list and for a model, and returns what both are then.
func step(t *testing.T, l []api.Var, m model, next func(int) int) []api.Var {
	t.Helper()
	name := anyName(next)
	value := []string{"", "1", "a b", "x=y"}[next(4)]
	exported, readOnly := next(3) == 0, next(12) == 0
	var got []api.Var
	var f, want api.Errno
	promise := "L2"
	switch next(6) {
	case 0, 1, 2:
		got, f = vars.Set(l, name, value)
		want = m.set(name, value)
	case 3:
		promise = "L3"
		got, f = vars.Mark(l, name, exported, readOnly)
		want = m.mark(name, exported, readOnly)
	default:
		promise = "L4"
		got, f = vars.Unset(l, name)
		want = m.unset(name)
	}
	if f != want {
		t.Fatalf("%s: %q of %v: %d, want %d", promise, name, l, f, want)
	}
	if f != api.OK {
		checkRefused(t, promise, name, got, f, want)
		return l
	}
	checkList(t, promise, name, got, f, m.list())
	return got
}

func TestModel(t *testing.T) {
	for seed := range 2000 {
		next := numbers(seed)
		var l []api.Var
		m := model{}
		for range 60 {
			l = step(t, l, m, next)
			if t.Failed() {
				t.Fatalf("seed %d", seed)
			}
			name := anyName(next)
			v, found := vars.Get(l, name)
			if want, there := m[name]; v != want || found != there {
				t.Fatalf("L1: seed %d: Get %q: %v %t, want %v %t", seed, name, v, found, want, there)
			}
			if got := vars.Environ(l); !slices.Equal(got, m.environ()) {
				t.Fatalf("L5: seed %d: %q, want %q", seed, got, m.environ())
			}
		}
	}
}

// TestAllLists has all lists of variables of a few names, each missing or marked in one of the ways.
func TestAllLists(t *testing.T) {
	names := []string{"B", "D", "_", "d"}
	asked := []string{"A", "B", "C", "D", "E", "_", "a", "d", "d0", "1", ""}
	for number := range 625 {
		m := model{}
		for _, name := range names {
			if way := number % 5; way > 0 {
				m[name] = api.Var{Name: name, Value: name + "v", Exported: way&1 == 0, ReadOnly: way > 2}
			}
			number /= 5
		}
		for _, name := range asked {
			checkOne(t, m, name)
		}
	}
}

// checkOne fails unless all functions do for a name what a model does.
func checkOne(t *testing.T, m model, name string) {
	t.Helper()
	l := m.list()
	check := func(promise string, got []api.Var, f api.Errno, change func(m model) api.Errno) {
		t.Helper()
		changed := maps.Clone(m)
		if want := change(changed); want != api.OK {
			checkRefused(t, promise, name, got, f, want)
		} else {
			checkList(t, promise, name, got, f, changed.list())
		}
	}
	got, f := vars.Set(l, name, "x")
	check("L2", got, f, func(m model) api.Errno { return m.set(name, "x") })
	for marks := range 4 {
		got, f = vars.Mark(l, name, marks&1 != 0, marks&2 != 0)
		check("L3", got, f, func(m model) api.Errno { return m.mark(name, marks&1 != 0, marks&2 != 0) })
	}
	got, f = vars.Unset(l, name)
	check("L4", got, f, func(m model) api.Errno { return m.unset(name) })
	v, found := vars.Get(l, name)
	if want, there := m[name]; v != want || found != there {
		t.Errorf("L1: Get %q of %v: %v %t", name, l, v, found)
	}
}
