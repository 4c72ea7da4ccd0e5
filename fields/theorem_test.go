package fields_test

import (
	"slices"
	"strings"
	"testing"

	"scullion/api"
	"scullion/fields"
	"scullion/pattern"
)

// withBreaks returns some segments, with a Break before and behind them.
func withBreaks(l []api.Seg) []api.Seg {
	return slices.Concat(segs(stop()), l, segs(stop()))
}

// TestEmptyIfs has Splits between Breaks, which make at most one field there if no byte separates them.
func TestEmptyIfs(t *testing.T) {
	for seed := range 20000 {
		next := numbers(seed)
		text, want := "", []string(nil)
		var l []api.Seg
		for range next(4) {
			s := anyText(next)
			l, text = append(l, split(s)), text+s
		}
		if text != "" {
			want = list(strings.ReplaceAll(text, `\`, `\\`))
		}
		if got := fields.Fields(withBreaks(l), ""); !slices.Equal(got, want) {
			t.Fatalf("N3: Fields(%+v, \"\"): %q, not %q", l, got, want)
		}
	}
}

// TestAnyWithEmptyIfs has any segments, of which each two Breaks have at most one field between them.
func TestAnyWithEmptyIfs(t *testing.T) {
	for seed := range 20000 {
		l := anySegments(numbers(seed))
		most := 1
		for _, g := range l {
			if g.Kind == api.Break {
				most++
			}
		}
		if got := fields.Fields(l, ""); len(got) > most {
			t.Fatalf("N3: Fields(%+v, \"\"): %q, more than %d", l, got, most)
		}
	}
}

// TestLiteralsAreWhole puts a Literal among any segments: its text is in one field, whatever separates.
func TestLiteralsAreWhole(t *testing.T) {
	for seed := range 50000 {
		next := numbers(seed)
		text := "<" + anyText(next) + ">"
		before, behind, ifs := anySegments(next), anySegments(next), anyIfs(next)
		got := fields.Fields(slices.Concat(before, segs(literal(text)), behind), ifs+text)
		if !slices.ContainsFunc(got, func(f string) bool { return strings.Contains(f, pattern.Escape(text)) }) {
			t.Fatalf("N3: the Literal %q between %+v and %+v isn't whole: %q", text, before, behind, got)
		}
	}
}

// TestLiteralIsOneField has a Literal alone: it is a field that matches its text and nothing else.
func TestLiteralIsOneField(t *testing.T) {
	for _, text := range strs(` :*\`, 4) {
		got := fields.Fields(withBreaks(segs(literal(text))), " :*\\")
		if len(got) != 1 || pattern.Plain(got[0]) != text || pattern.Special(got[0]) || !pattern.Match(got[0], text) {
			t.Errorf("N3: the fields of the Literal %q: %q", text, got)
		}
	}
}

// TestBlanksOnly has an ifs of blanks: only a Literal makes an empty field.
func TestBlanksOnly(t *testing.T) {
	empty := 0
	for seed := range 50000 {
		next := numbers(seed)
		l, ifs := anySegments(next), list("", " ", "\t", "\n", " \n", " \t\n", "  \t")[next(7)]
		literals := 0
		for _, g := range l {
			if g.Kind == api.Literal && g.Text == "" {
				literals++
			}
		}
		for _, f := range fields.Fields(l, ifs) {
			if f == "" {
				empty++
				literals--
			}
		}
		if literals < 0 {
			t.Fatalf("N3: Fields(%+v, %q) has more empty fields than empty Literals", l, ifs)
		}
	}
	if empty < 500 {
		t.Errorf("N3: only %d fields are empty", empty)
	}
}

// TestSplitIsTaken has a text without backslashes: its fields are parts of it, and have all bytes that don't separate.
func TestSplitIsTaken(t *testing.T) {
	for seed := range 20000 {
		next := numbers(seed)
		ifs := anyIfs(next)
		text := strings.ReplaceAll(anyText(next)+anyText(next), `\`, "")
		kept := func(s string) string {
			var b []byte
			for _, c := range []byte(s) {
				if strings.IndexByte(ifs, c) < 0 {
					b = append(b, c)
				}
			}
			return string(b)
		}
		got := fields.Fields(segs(split(text)), ifs)
		if joined := strings.Join(got, ""); joined != kept(text) || joined != kept(joined) {
			t.Fatalf("N1: Fields of Split %q with the ifs %q: %q", text, ifs, got)
		}
	}
}
