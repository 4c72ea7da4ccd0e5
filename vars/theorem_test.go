package vars_test

import (
	"slices"
	"strconv"
	"testing"

	"scullion/api"
	"scullion/vars"
)

// anyList returns a list that was made by a number of calls.
func anyList(t *testing.T, next func(int) int) []api.Var {
	t.Helper()
	var l []api.Var
	m := model{}
	for range next(40) {
		l = step(t, l, m, next)
	}
	return l
}

// checkOthers fails unless all variables but one are the same in two lists, and both are in ascending order.
func checkOthers(t *testing.T, before, after []api.Var, name string) {
	t.Helper()
	for _, other := range slices.Concat(validNames, invalidNames) {
		v, found := vars.Get(before, other)
		w, still := vars.Get(after, other)
		if other != name && (v != w || found != still) {
			t.Fatalf("L6: %q was changed: %v %t, then %v %t", other, v, found, w, still)
		}
	}
	for i := 1; i < len(after); i++ {
		if after[i-1].Name >= after[i].Name {
			t.Fatalf("L6: not in ascending order: %v", after)
		}
	}
}

// TestSetThenGet sets each variable, and looks at all of them.
func TestSetThenGet(t *testing.T) {
	for seed := range 200 {
		next := numbers(seed)
		l := anyList(t, next)
		for _, name := range validNames {
			before, _ := vars.Get(l, name)
			value := strconv.Itoa(next(100))
			after, f := vars.Set(l, name, value)
			if before.ReadOnly {
				checkRefused(t, "L6", name, after, f, api.ErrRead)
				continue
			}
			v, found := vars.Get(after, name)
			if want := (api.Var{Name: name, Value: value, Exported: before.Exported}); f != api.OK || !found || v != want {
				t.Fatalf("L6: %q was set: %v %t, want %v", name, v, found, want)
			}
			checkOthers(t, l, after, name)
		}
	}
}

// TestUnsetThenGet unsets each variable, and looks at all of them.
func TestUnsetThenGet(t *testing.T) {
	for seed := range 200 {
		l := anyList(t, numbers(seed))
		for _, name := range validNames {
			before, _ := vars.Get(l, name)
			after, f := vars.Unset(l, name)
			if before.ReadOnly {
				checkRefused(t, "L6", name, after, f, api.ErrRead)
				continue
			}
			if v, found := vars.Get(after, name); f != api.OK || found || v != (api.Var{}) {
				t.Fatalf("L6: %q was unset: %v %t", name, v, found)
			}
			checkOthers(t, l, after, name)
			again, f := vars.Unset(after, name)
			checkList(t, "L6", "Unset again "+name, again, f, after)
		}
	}
}

// TestMarkThenGet marks each variable, and looks at all of them.
func TestMarkThenGet(t *testing.T) {
	for seed := range 100 {
		next := numbers(seed)
		l := anyList(t, next)
		for _, name := range validNames {
			before, _ := vars.Get(l, name)
			exported, readOnly := next(2) == 0, next(2) == 0
			after, f := vars.Mark(l, name, exported, readOnly)
			v, found := vars.Get(after, name)
			if want := (api.Var{Name: name, Value: before.Value, Exported: before.Exported || exported, ReadOnly: before.ReadOnly || readOnly}); f != api.OK || !found || v != want {
				t.Fatalf("L3: %q was marked: %v %t, want %v", name, v, found, want)
			}
			checkOthers(t, l, after, name)
		}
	}
}

// TestManyVariables has more variables than could be looked at one by one each time.
func TestManyVariables(t *testing.T) {
	const many = 300000
	l := make([]api.Var, many)
	for i := range l {
		l[i] = api.Var{Name: "v" + strconv.Itoa(1000000+i), Value: strconv.Itoa(i), Exported: i%2 == 0}
	}
	for i, v := range l {
		if got, found := vars.Get(l, v.Name); !found || got != v {
			t.Fatalf("L1: variable %d: %v %t", i, got, found)
		}
		if got, found := vars.Get(l, v.Name+"_"); found {
			t.Fatalf("L1: behind variable %d: %v", i, got)
		}
	}
	for _, i := range []int{0, 1, 2, many / 2, many - 2, many - 1} {
		name := l[i].Name
		after, f := vars.Set(l, name, "x")
		if v, _ := vars.Get(after, name); f != api.OK || len(after) != many || v.Value != "x" {
			t.Errorf("L2: variable %d of %d: %v %d", i, len(after), v, f)
		}
		after, f = vars.Set(l, name+"_", "x")
		if v, _ := vars.Get(after, name+"_"); f != api.OK || len(after) != many+1 || v.Value != "x" {
			t.Errorf("L2: behind variable %d of %d: %v %d", i, len(after), v, f)
		}
		after, f = vars.Unset(l, name)
		if _, found := vars.Get(after, name); f != api.OK || len(after) != many-1 || found {
			t.Errorf("L4: variable %d of %d: %t %d", i, len(after), found, f)
		}
	}
	if env := vars.Environ(l); len(env) != many/2 || env[1] != "v1000002=2" {
		t.Errorf("L5: %d variables are exported", len(env))
	}
}

// TestOtherLists has lists that may not be, for which the calls must only end.
func TestOtherLists(t *testing.T) {
	for seed := range 3000 {
		next := numbers(seed)
		l := make([]api.Var, next(6))
		for i := range l {
			l[i] = api.Var{Name: anyName(next), Value: "1", Exported: next(2) == 0, ReadOnly: next(4) == 0}
		}
		for range 6 {
			name := anyName(next)
			vars.Get(l, name)
			vars.Set(l, name, "2")
			vars.Mark(l, name, true, false)
			vars.Unset(l, name)
			vars.Environ(l)
		}
	}
}
