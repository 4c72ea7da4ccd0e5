package expand_test

import (
	"runtime/debug"
	"slices"
	"strings"
	"testing"

	"scullion/api"
	"scullion/expand"
)

// many is a number of parts that is too great for going through all of them for each.
const many = 300000

// deep is how often parts are nested in one another, with more of them than there is room for calls.
const deep = 100000

// shortStack leaves little room for calls while a test runs.
func shortStack(t *testing.T) {
	room := debug.SetMaxStack(1 << 20)
	t.Cleanup(func() { debug.SetMaxStack(room) })
}

// nested returns a part in the Word of another one, and that in the Word of a third one, and so on.
func nested(around func(inner ...api.Part) []api.Part, innermost ...api.Part) []api.Part {
	l := innermost
	for range deep {
		l = around(l...)
	}
	return l
}

// around returns a function that returns a parameter around parts.
func around(name, operator string) func(...api.Part) []api.Part {
	return func(inner ...api.Part) []api.Part { return []api.Part{op(name, operator, inner...)} }
}

// TestDeepWords nests Words that nobody parsed in one another.
func TestDeepWords(t *testing.T) {
	shortStack(t)
	s := sample()
	plain := func(text string) want { return want{text, text, list(text), s} }
	for _, c := range []struct {
		l []api.Part
		want
	}{
		{nested(around("none", "-"), text("x")), plain("x")},
		{nested(around("e", ":-"), text("x")), plain("x")},
		{nested(around("a", "+"), text("x")), plain("x")},
		{nested(around("a", ":+"), arithmetic("1")), plain("1")},
		{nested(around("a", "-"), text("x")), plain("5")},
		{nested(around("a", "?"), text("x")), plain("5")},
		{nested(around("a", "len"), text("x")), plain("1")},
		{nested(around("a", ""), text("x")), plain("5")},
		// Each second Word is what it is to be removed from.
		{nested(around("a", "#"), text("x")), want{"", "", nil, s}},
		{nested(around("a", "%%"), text("5")), plain("5")},
		{nested(around("none", "="), text("x")), want{"x", "x", list("x"), withVar(s, "none", "x")}},
		{nested(around("none", "-"), op("none", "=", text("x"))), want{"x", "x", list("x"), withVar(s, "none", "x")}},
		{nested(around("none", "-")), want{"", "", nil, s}},
		{nested(func(inner ...api.Part) []api.Part { return []api.Part{quoted(op("none", "-", inner...))} }), want{"", "", list(""), s}},
	} {
		checkParts(t, "P3", c.l, s, nil, c.want)
	}
	for _, operator := range list("-", "=", ":=") {
		checkRefused(t, "P3", nested(around("none", operator), arithmetic("1/0")), s, api.ErrZero)
		checkRefused(t, "P3", nested(around("none", operator), op("none", "?")), s, api.ErrUnset)
		checkRefused(t, "P3", nested(around("none", operator), op("re", ":=")), s, api.ErrRead)
	}
	for _, operator := range list("+", "##", "%") {
		checkRefused(t, "P3", nested(around("a", operator), arithmetic("1+")), s, api.ErrArith)
	}
}

// TestDeepTexts has texts before and behind each of the Words that are nested in one another.
func TestDeepTexts(t *testing.T) {
	shortStack(t)
	l := nested(func(inner ...api.Part) []api.Part {
		return []api.Part{text("("), op("none", "-", inner...), quoted(text(")"))}
	}, text("x"))
	plain, escaped := strings.Repeat("(", deep)+"x"+strings.Repeat(")", deep), strings.Repeat("(", deep)+"x"+strings.Repeat(`\)`, deep)
	checkParts(t, "P4", l, sample(), nil, want{plain, escaped, list(plain), sample()})
	if got := expand.Commands(l); len(got) > 0 {
		t.Errorf("P1: %d commands", len(got))
	}
}

// repeated returns parts many times.
func repeated(l ...api.Part) []api.Part { return slices.Repeat(l, many) }

func TestManyParts(t *testing.T) {
	shortStack(t)
	s := sample()
	for i, c := range []struct {
		l     []api.Part
		size  int // of the text
		count int // of the fields
	}{
		{repeated(text("x")), many, 1},
		{repeated(op("a", "")), many, 1},
		{repeated(op("exp", ""), quoted(op("exp", ""))), 6 * many, many + 1},
		{repeated(op("@", "")), 8 * many, 2*many + 1},
		{repeated(quoted(op("@", ""))), 8 * many, 2*many + 1},
		{repeated(quoted(op("*", ""))), 8 * many, 1},
		{repeated(arithmetic("12")), 2 * many, 1},
		{repeated(command("c")), 0, 0},
		{repeated(op("none", "-", text("x"), text("y"))), 2 * many, 1},
		{repeated(op("none", "+", text("x"))), 0, 0},
		{repeated(quoted(op("none", "-"))), 0, 1},
		{repeated(op("dots", "##", text("*."))), many, 1},
		{repeated(op("dots", "len")), many, 1},
		{repeated(op("s", "-")), 6 * many, 2 * many},
		{repeated(api.Part{Kind: 4}), 0, 0},
	} {
		text, _, f := expand.Text(c.l, s, nil, false)
		found, after, e := expand.Fields(process(), c.l, s, nil)
		if len(text) != c.size || len(found) != c.count || f != api.OK || e != api.OK || !sameShell(after, s) {
			t.Errorf("P4: long case %d: %d bytes and %d fields, %d and %d", i, len(text), len(found), f, e)
		}
	}
}

// TestManyOutputs has many commands, and as many outputs, or less.
func TestManyOutputs(t *testing.T) {
	shortStack(t)
	l := repeated(command("c"), text("-"))
	if got := expand.Commands(l); len(got) != many || got[many-1] != "c" {
		t.Errorf("P1: %d commands", len(got))
	}
	for _, n := range []int{many, many - 1, many / 2, 0} {
		text, _, f := expand.Text(l, sample(), slices.Repeat(list("xy\n"), n), false)
		if want := strings.Repeat("xy-", n) + strings.Repeat("-", many-n); text != want || f != api.OK {
			t.Errorf("P4: %d outputs: %d bytes and %d", n, len(text), f)
		}
	}
	long := strings.Repeat("x", many)
	for _, out := range list(long, long+strings.Repeat("\n", many), strings.Repeat("\n", many), strings.Repeat("\n", many)+long) {
		text, _, f := expand.Text([]api.Part{command("c")}, sample(), list(out), false)
		if text != strings.TrimRight(out, "\n") || f != api.OK {
			t.Errorf("P4: a long output: %d bytes and %d", len(text), f)
		}
	}
}

// TestManyArguments has many arguments and variables, and long values.
func TestManyArguments(t *testing.T) {
	shortStack(t)
	s := withArgs(slices.Repeat(list("x y"), many)...)
	for word, want := range map[string]int{"$@": 2 * many, `"$@"`: many, `"$*"`: 1, "$*": 2 * many, "$#": 1, "${300000}": 2, `"${300001}"`: 1, "${@+x}": 1, "${@-x}": 2 * many, "${#@}": 1} {
		found, after, f := expand.Fields(process(), parts(t, word), s, nil)
		if len(found) != want || f != api.OK || !sameShell(after, s) {
			t.Errorf("P3: %s: %d fields and %d", word, len(found), f)
		}
	}
	long := strings.Repeat("x", many)
	s = withVar(sample(), "v", long)
	for word, want := range map[string]string{"$v": long, "${v#x}": long[1:], "${v%%*x}": "", "${v%$v}": "", "${none=$v}": long, "${#v}": "300000", "${none-$v$v}": long + long} {
		if text, _, f := expand.Text(parts(t, word), s, nil, false); text != want || f != api.OK {
			t.Errorf("P3: %s: %d bytes and %d", word, len(text), f)
		}
	}
}

// kept returns copies of parts, down to all Words.
func kept(l []api.Part) []api.Part {
	l = slices.Clone(l)
	for i := range l {
		l[i].Word = kept(l[i].Word)
	}
	return l
}

func sameParts(a, b []api.Part) bool {
	return slices.EqualFunc(a, b, func(p, q api.Part) bool {
		return p.Kind == q.Kind && p.Quoted == q.Quoted && p.Text == q.Text && p.Name == q.Name && p.Op == q.Op && sameParts(p.Word, q.Word)
	})
}

// TestMemory has arguments that must stay as they are, beyond their lengths too, and results that share no memory with them.
func TestMemory(t *testing.T) {
	for seed := range 20000 {
		m := maker{numbers(seed)}
		l, s, outs := m.parts(2), m.shell(), m.outs()
		room := api.Shell{Vars: append(slices.Clone(s.Vars), set("y", "1"), set("z", "2")), Args: append(slices.Clone(s.Args), "y", "z"), Status: s.Status}
		outRoom, partRoom := append(slices.Clone(outs), "y", "z"), append(kept(l), text("y"), text("z"))
		roomBefore, outBefore, partBefore := api.Shell{Vars: slices.Clone(room.Vars), Args: slices.Clone(room.Args), Status: room.Status}, slices.Clone(outRoom), kept(partRoom)
		given := api.Shell{Vars: room.Vars[:len(s.Vars)], Args: room.Args[:len(s.Args)], Status: s.Status}
		_, first, _ := expand.Text(partRoom[:len(l)], given, outRoom[:len(outs)], m.next(2) == 0)
		found, second, _ := expand.Fields(process(), partRoom[:len(l)], given, outRoom[:len(outs)])
		commands := expand.Commands(partRoom[:len(l)])
		for _, after := range []api.Shell{first, second} {
			for i := range after.Vars {
				after.Vars[i] = set("other", "")
			}
			for i := range after.Args {
				after.Args[i] = "other"
			}
			_, _ = append(after.Vars, set("other", "")), append(after.Args, "other")
		}
		for i := range found {
			found[i] = "other"
		}
		for i := range commands {
			commands[i] = "other"
		}
		_, _ = append(found, "other"), append(commands, "other")
		if !sameShell(room, roomBefore) || !slices.Equal(outRoom, outBefore) || !sameParts(partRoom, partBefore) {
			t.Fatalf("R3: seed %d: %s, %q and %v", seed, shown(room), outRoom, partRoom)
		}
	}
}

// TestSameAgain expands in another order, with the same arguments.
func TestSameAgain(t *testing.T) {
	type result struct {
		text  string
		found []string
		after api.Shell
		f     api.Errno
	}
	expanded := func(seed int) result {
		m := maker{numbers(seed)}
		l, s, outs := m.parts(3), m.shell(), m.outs()
		text, after, f := expand.Text(l, s, outs, true)
		found, afterwards, e := expand.Fields(process(), l, s, outs)
		if !sameShell(after, afterwards) || f != e {
			t.Errorf("P6: seed %d: %d and %s, but %d and %s", seed, f, shown(after), e, shown(afterwards))
		}
		return result{text, found, after, f}
	}
	var results []result
	for seed := range 3000 {
		results = append(results, expanded(seed))
	}
	for seed, before := range slices.Backward(results) {
		again := expanded(seed)
		if again.text != before.text || !slices.Equal(again.found, before.found) || !sameShell(again.after, before.after) || again.f != before.f {
			t.Errorf("R4: seed %d: %v, and then %v", seed, before, again)
		}
	}
}
