package expand_test

import (
	"slices"
	"strings"
	"testing"

	"scullion/api"
	"scullion/expand"
	"scullion/fields"
	"scullion/kern"
	"scullion/pattern"
	"scullion/store"
	"scullion/word"
)

// strs returns all strings of up to some bytes, each out of a list.
func strs(bytes string, length int) []string {
	all, last := list(""), list("")
	for range length {
		var next []string
		for _, s := range last {
			for _, c := range []byte(bytes) {
				next = append(next, s+string([]byte{c}))
			}
		}
		all, last = append(all, next...), next
	}
	return all
}

// quotes returns words that quote a text.
func quotes(s string) []string {
	single := word.Print([]api.Part{quoted(text(s))})
	double := `"` + strings.NewReplacer("$", `\$`, "`", "\\`", `"`, `\"`, `\`, `\\`).Replace(s) + `"`
	l := list(single, double, single+`""`, "''"+double)
	if s != "" {
		escaped := ""
		for _, c := range []byte(s) {
			escaped += `\` + string([]byte{c})
		}
		l = append(l, escaped)
	}
	return l
}

// checkQuoted fails unless a quoted text is one field, unchanged.
func checkQuoted(t *testing.T, p *kern.Proc, s string, h api.Shell) {
	t.Helper()
	for _, quotation := range quotes(s) {
		l := parts(t, quotation)
		found, after, f := expand.Fields(p, l, h, list("out"))
		if !slices.Equal(found, list(s)) || f != api.OK || !sameShell(after, h) {
			t.Errorf("P7: Fields of %s: %q and %d", quotation, found, f)
		}
		got, after, f := expand.Text(l, h, list("out"), false)
		if got != s || f != api.OK || !sameShell(after, h) {
			t.Errorf("P7: Text of %s: %q and %d", quotation, got, f)
		}
		matched, after, f := expand.Text(l, h, list("out"), true)
		if pattern.Plain(matched) != s || pattern.Special(matched) || !pattern.Match(matched, s) || f != api.OK || !sameShell(after, h) {
			t.Errorf("P7: Text of %s as a pattern: %q and %d", quotation, matched, f)
		}
	}
}

// TestQuotedText quotes texts in which all that means something may stand.
func TestQuotedText(t *testing.T) {
	p, s := process(), sample()
	for _, quotation := range strs(`a*$'"`+"`\\ ", 3) {
		checkQuoted(t, p, quotation, s)
	}
	for _, c := range strs("*?[]d/x.", 3) {
		checkQuoted(t, p, c, withVar(s, "IFS", "*/"))
	}
	for _, c := range list("$a", "${a}", "${none?}", "$(c)", "$((1/0))", `"$@"`, "'x y'", "${re:=x}", "$", "#", ";", "\n", "\x00", "\xff\xfe", "é", "~", "#x", "a=b", strings.Repeat("*/", 300)) {
		checkQuoted(t, p, c, s)
	}
	for seed := range 5000 {
		next := numbers(seed)
		b := make([]byte, next(6))
		for i := range b {
			b[i] = byte(next(256))
		}
		checkQuoted(t, p, string(b), maker{next}.shell())
	}
}

// TestQuotedParameter has any value in quotes.
func TestQuotedParameter(t *testing.T) {
	for _, value := range strs("a* \\:\n", 4) {
		s := withVar(withVar(sample(), "v", value), "IFS", " :a")
		for _, quotation := range list(`"$v"`, `"${v-x}"`, `"${v=x}"`, `"${v?}"`, `"${v+$v}"`, `"${none-$v}"`, `"${none-"$v"}"`, `"${v#}"`, `"${none=$v}"`) {
			found, _, f := expand.Fields(process(), parts(t, quotation), s, nil)
			if !slices.Equal(found, list(value)) || f != api.OK {
				t.Errorf("P7: Fields of %s with v = %q: %q and %d", quotation, value, found, f)
			}
		}
		trimmed := strings.TrimRight(value, "\n")
		if found, _, f := expand.Fields(process(), parts(t, `"$(c)"`), s, list(value)); !slices.Equal(found, list(trimmed)) || f != api.OK {
			t.Errorf("P7: the output %q: %q and %d", value, found, f)
		}
	}
}

// TestQuotedArguments has any arguments, which are fields one by one.
func TestQuotedArguments(t *testing.T) {
	for seed := range 20000 {
		m := maker{numbers(seed)}
		s := m.shell()
		before, behind := m.text(), m.text()
		var around []string
		if around = slices.Clone(s.Args); len(around) == 0 {
			around = list("")
		}
		around[0] = before + around[0]
		around[len(around)-1] += behind
		surrounded := append([]api.Part{quoted(text(before))}, quoted(op("@", "")), quoted(text(behind)))
		for _, c := range []struct {
			l    []api.Part
			want []string
		}{{parts(t, `"$@"`), s.Args}, {parts(t, `"${@}"`), s.Args}, {parts(t, `${0+"$@"}`), s.Args}, {parts(t, `"$@""$@"`), twice(s.Args)}, {surrounded, around}} {
			found, after, f := expand.Fields(process(), c.l, s, nil)
			if !slices.Equal(found, c.want) || f != api.OK || !sameShell(after, s) {
				t.Fatalf("P7: Fields of %s with the arguments %q: %q and %d", word.Print(c.l), s.Args, found, f)
			}
		}
	}
}

// twice returns arguments behind themselves, with no Break between.
func twice(l []string) []string {
	if len(l) == 0 {
		return nil
	}
	all := slices.Concat(l, l[1:])
	all[len(l)-1] += l[0]
	return all
}

// TestWithoutDollar has words without a `$`, which set nothing and have no error.
func TestWithoutDollar(t *testing.T) {
	tried := 0
	check := func(s string, h api.Shell) {
		l, f := word.Parse(s)
		if f != api.OK {
			return
		}
		tried++
		_, after, e := expand.Text(l, h, nil, false)
		_, afterwards, f := expand.Fields(process(), l, h, nil)
		if e != api.OK || f != api.OK || !sameShell(after, h) || !sameShell(afterwards, h) || len(expand.Commands(l)) > 0 {
			t.Fatalf("P7: %q: %d, %d, %s and %s", s, e, f, shown(after), shown(afterwards))
		}
	}
	for _, s := range strs(`a=*{(\'"`, 4) {
		check(s, sample())
	}
	for seed := range 20000 {
		m := maker{numbers(seed)}
		s := m.text() + m.pick("'", `"`, `\`, "{", "((", "") + m.text() + m.pick("'", `"`, "=", "}", "))", "") + m.text()
		check(strings.ReplaceAll(s, "$", ""), m.shell())
	}
	if tried < 10000 {
		t.Errorf("P7: only %d words", tried)
	}
}

// TestFieldsOfSegments has the fields of parts that have one segment each.
func TestFieldsOfSegments(t *testing.T) {
	for seed := range 20000 {
		m := maker{numbers(seed)}
		s := withVar(sample(), "IFS", m.pick("", " ", ":", ": ", "a"))
		var l []api.Part
		var segments []api.Seg
		for i := range m.next(6) {
			value, name := strings.TrimRight(m.text(), "\n"), "v"+string(rune('0'+i))
			part := []api.Part{text(value), quoted(text(value)), op(name, ""), quoted(op(name, "")), op("none", "-", text(value)), op("e", "", quoted(text(value)))}[m.next(5)]
			kind := api.Plain
			switch s = withVar(s, name, value); {
			case part.Quoted:
				kind = api.Literal
			case part.Name == name:
				kind = api.Split
			}
			l, segments = append(l, part), append(segments, api.Seg{Kind: kind, Text: value})
		}
		ifs := s.Vars[slices.IndexFunc(s.Vars, func(v api.Var) bool { return v.Name == "IFS" })].Value
		checkParts(t, "P6", l, s, nil, want{fields.Joined(segments, false), fields.Joined(segments, true), modelFields(segments, ifs), s})
	}
}

// TestReads has words whose fields are patterns or not: only directories that a pattern needs are read, and none if there is an error.
func TestReads(t *testing.T) {
	for s, want := range map[string][]string{"x": nil, "'*'": nil, `"$star"`: nil, "*$((1/0))": nil, "*${none?}": nil, "$star${re:=x}": nil, "${none-*}": list(""), "$star": list(""), "d/*": list("/d")} {
		x := store.New()
		x.Put("/d", api.Entry{Kind: api.Dir, Mode: 7})
		x.Put("/d/x", api.Entry{Kind: api.File, Mode: 6})
		p := kern.New(x, "", 0)
		x.Begin()
		expand.Fields(p, parts(t, s), sample(), nil)
		reads, writes := x.End()
		var names []string
		for _, touch := range reads {
			if touch.Names {
				names = append(names, touch.Path)
			}
		}
		if !slices.Equal(names, want) || len(writes) > 0 || (len(want) == 0 && len(reads) > 0) {
			t.Errorf("P6: Fields of %s reads %v and writes %v", s, reads, writes)
		}
	}
}

// TestWorkingDirectory has a process that works elsewhere.
func TestWorkingDirectory(t *testing.T) {
	p := process()
	p.Chdir("d")
	found, _, f := expand.Fields(p, parts(t, `*-'*'"$@"../$star`), withArgs(" ", "?"), nil)
	if !slices.Equal(found, list("*-* ", "?../*")) || f != api.OK {
		t.Errorf("P6: %q and %d", found, f)
	}
	found, _, f = expand.Fields(p, parts(t, "${*}"), withArgs("?", "../a*", "../[", `"*"`), nil)
	if !slices.Equal(found, list("x", "y", "../a", "../ab", "../[", `"*"`)) || f != api.OK {
		t.Errorf("P6: %q and %d", found, f)
	}
}
