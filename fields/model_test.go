package fields_test

import (
	"slices"
	"strings"
	"testing"

	"scullion/api"
	"scullion/fields"
)

// Kinds of marks.
const (
	content   = iota // a text that is added to a field
	blank            // a blank of ifs
	separator        // a separator of ifs
	breaking         // a Break
)

// mark is something that matters to fields.
type mark struct {
	kind int
	text string
}

// marks returns the marks of some segments, each of which matters.
func marks(l []api.Seg, ifs string) []mark {
	var all []mark
	for _, g := range l {
		switch {
		case g.Kind == api.Literal, g.Kind == api.Plain && g.Text != "":
			all = append(all, mark{content, modelPattern(g)})
		case g.Kind == api.Break:
			all = append(all, mark{kind: breaking})
		case g.Kind == api.Split:
			for _, c := range []byte(g.Text) {
				all = append(all, splitMark(string([]byte{c}), ifs))
			}
		}
	}
	return all
}

// splitMark returns the mark of a byte that is to be split.
func splitMark(c, ifs string) mark {
	switch {
	case !strings.Contains(ifs, c):
		return mark{content, modelPattern(api.Seg{Text: c})}
	case strings.Contains(" \t\n", c):
		return mark{kind: blank}
	}
	return mark{kind: separator}
}

// modelPattern returns the text of a segment as it is in a field.
func modelPattern(g api.Seg) string {
	text := ""
	for _, c := range []byte(g.Text) {
		if g.Kind == api.Literal || c == '\\' {
			text += `\`
		}
		text += string([]byte{c})
	}
	return text
}

// model returns the fields of some segments: at each mark that ends a field it looks back at those before it.
func model(l []api.Seg, ifs string) []string {
	var all []string
	before := marks(l, ifs)
	for i, m := range before {
		switch {
		case m.kind == content:
		case begun(before[:i]):
			all = append(all, fieldBefore(before[:i]))
		case m.kind == separator && !afterBlank(before[:i]):
			all = append(all, "")
		}
	}
	if begun(before) {
		all = append(all, fieldBefore(before))
	}
	return all
}

// begun tells whether a field has begun after some marks.
func begun(before []mark) bool {
	return len(before) > 0 && before[len(before)-1].kind == content
}

// fieldBefore returns the field that has begun after some marks.
func fieldBefore(before []mark) string {
	text := ""
	for begun(before) {
		text = before[len(before)-1].text + text
		before = before[:len(before)-1]
	}
	return text
}

// afterBlank tells whether a blank ended a field after some marks, and only blanks came since.
func afterBlank(before []mark) bool {
	blanks := 0
	for blanks < len(before) && before[len(before)-1-blanks].kind == blank {
		blanks++
	}
	return blanks > 0 && begun(before[:len(before)-blanks])
}

// checkModel fails unless the fields of some segments, and their joined texts, are those of the model.
func checkModel(t *testing.T, l []api.Seg, ifs string) {
	t.Helper()
	if got, want := fields.Fields(l, ifs), model(l, ifs); !slices.Equal(got, want) {
		t.Fatalf("N1: Fields(%+v, %q): %q, not %q", l, ifs, got, want)
	}
	text, p := "", ""
	for _, g := range l {
		if g.Kind == api.Break {
			text, p = text+" ", p+" "
			continue
		}
		text, p = text+g.Text, p+modelPattern(g)
	}
	if got := fields.Joined(l, false); got != text {
		t.Fatalf("N2: Joined(%+v, false): %q, not %q", l, got, text)
	}
	if got := fields.Joined(l, true); got != p {
		t.Fatalf("N2: Joined(%+v, true): %q, not %q", l, got, p)
	}
}

// strs returns all strings of up to some bytes, each out of a list.
func strs(bytes string, length int) []string {
	all, last := []string{""}, []string{""}
	for range length {
		var next []string
		for _, s := range last {
			for _, c := range []byte(bytes) {
				next = append(next, s+string([]byte{c}))
			}
		}
		all, last = append(all, next...), next
	}
	return all
}

// TestShortTexts has all short texts that are to be split.
func TestShortTexts(t *testing.T) {
	for _, ifs := range list("", " ", ":", " :", ": ", "a", ` \`, "\t\n:", `\`, "::  ") {
		for _, text := range strs(` :a\`, 6) {
			checkModel(t, segs(split(text)), ifs)
		}
		for _, text := range strs(" \t\n:a", 4) {
			checkModel(t, segs(split(text)), ifs)
		}
	}
}

// someSegments are segments of each Kind.
func someSegments() []api.Seg {
	return segs(
		plain(""), plain("p"), plain(" "), literal(""), literal("l"), stop(), split(""), split("s"), split(" "), split(":"),
		split(": "), split(" :"), split("::"), api.Seg{Kind: 4, Text: "o"}, api.Seg{Kind: -1}, api.Seg{Kind: api.Break, Text: "b"},
	)
}

// TestFewSegments has all lists of up to four segments.
func TestFewSegments(t *testing.T) {
	kinds := someSegments()
	for _, ifs := range list("", " ", ":", " :", "sl:") {
		checkModel(t, nil, ifs)
		for _, a := range kinds {
			checkModel(t, segs(a), ifs)
			for _, b := range kinds {
				checkModel(t, segs(a, b), ifs)
				for _, c := range kinds {
					checkModel(t, segs(a, b, c), ifs)
					for _, d := range kinds {
						checkModel(t, segs(a, b, c, d), ifs)
					}
				}
			}
		}
	}
}

// numbers returns a function that returns numbers below a bound, which depend on a seed.
func numbers(seed int) func(bound int) int {
	state := uint64(seed)*2862933555777941757 + 3037000493
	return func(bound int) int {
		state = state*6364136223846793005 + 1442695040888963407
		return int(state>>33) % bound
	}
}

// anyText returns a text of a few bytes.
func anyText(next func(int) int) string {
	var b strings.Builder
	for range next(7) {
		const bytes = "   ::\t\nab*\\;"
		if next(10) == 0 {
			b.WriteByte(byte(next(256)))
			continue
		}
		b.WriteByte(bytes[next(len(bytes))])
	}
	return b.String()
}

// anySegments returns some segments.
func anySegments(next func(int) int) []api.Seg {
	var l []api.Seg
	for range next(12) {
		kind := []int{api.Plain, api.Literal, api.Split, api.Split, api.Split, api.Break, 4, -3}[next(8)]
		l = append(l, api.Seg{Kind: kind, Text: anyText(next)})
	}
	return l
}

// anyIfs returns an ifs.
func anyIfs(next func(int) int) string {
	if next(5) == 0 {
		return anyText(next)
	}
	return list("", " \t\n", " ", ":", " :", ":;\n", "ab ", `\ `)[next(8)]
}

func TestAnySegments(t *testing.T) {
	for seed := range 100000 {
		next := numbers(seed)
		checkModel(t, anySegments(next), anyIfs(next))
	}
}
