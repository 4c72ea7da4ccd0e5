package word

import (
	"regexp"
	"slices"
	"strings"
	"testing"

	"scullion/api"
	"scullion/lexer"
)

var (
	shortName = regexp.MustCompile(`^(?:[A-Za-z_][A-Za-z0-9_]*|[0-9#?@*])`)
	inBraces  = regexp.MustCompile(`(?s)^([A-Za-z_][A-Za-z0-9_]*|[0-9]+|[#?@*])(:-|:=|:\?|:\+|%%|##|-|=|\?|\+|%|#|$)(.*)$`)
	inLength  = regexp.MustCompile(`^#([A-Za-z_][A-Za-z0-9_]*|[0-9]+|[#?@*])$`)
)

// modelUnit returns the shortest beginning of a string, of two bytes or more, that is a word of layer 7, or the empty string if there is none.
func modelUnit(s string) string {
	for n := 2; n <= len(s); n++ {
		if l, f := lexer.Tokens(s[:n]); f == api.OK && len(l) == 1 {
			return s[:n]
		}
	}
	return ""
}

// model returns the parts of a short string, or false if it has none. It goes by the words of layer 7 instead of units, and joins texts at the end.
func model(s string, all, within bool) (list, bool) {
	var l list
	for s != "" {
		unit, parts := s[:1], list{{Quoted: all, Text: s[:1]}}
		switch c := s[0]; {
		case within && c == '\\' && len(s) > 1 && strings.Contains("$`\"\\", s[1:2]):
			unit, parts = s[:2], list{{Quoted: true, Text: s[1:2]}}
		case !within && strings.Contains(`\'"`, s[:1]) || strings.HasPrefix(s, "$(") || strings.HasPrefix(s, "${"):
			if unit = modelUnit(s); unit == "" {
				return nil, false
			}
			ok := false
			if parts, ok = modelParts(unit, all); !ok {
				return nil, false
			}
		case c == '$' && shortName.MatchString(s[1:]):
			name := shortName.FindString(s[1:])
			unit, parts = s[:1+len(name)], list{{Kind: api.Param, Quoted: all, Name: name}}
		}
		l = append(l, parts...)
		s = s[len(unit):]
	}
	return joined(l), true
}

// modelParts returns the parts of a unit of two bytes or more.
func modelParts(unit string, all bool) (list, bool) {
	content := unit[1 : len(unit)-1]
	switch {
	case unit[0] == '\\':
		return list{{Quoted: true, Text: unit[1:]}}, true
	case unit[0] == '\'' || unit == `""`:
		return list{{Quoted: true, Text: content}}, true
	case unit[0] == '"':
		return model(content, true, true)
	case strings.HasPrefix(unit, "$((") && strings.HasSuffix(unit, "))"):
		return list{{Kind: api.Arith, Quoted: all, Text: content[2 : len(content)-1]}}, true
	case unit[1] == '(':
		return list{{Kind: api.Command, Quoted: all, Text: content[1:]}}, true
	}
	if m := inLength.FindStringSubmatch(content[1:]); m != nil {
		return list{{Kind: api.Param, Quoted: all, Name: m[1], Op: "len"}}, true
	}
	m := inBraces.FindStringSubmatch(content[1:])
	if m == nil || strings.HasSuffix(m[2], "=") && strings.ContainsAny(m[1][:1], "0123456789#?@*") {
		return nil, false
	}
	word, ok := model(m[3], all, false)
	if !ok || slices.ContainsFunc(word, func(p api.Part) bool { return p.Kind == api.Command }) {
		return nil, false
	}
	return list{{Kind: api.Param, Quoted: all, Name: m[1], Op: m[2], Word: word}}, true
}

// joined returns parts in which adjacent texts that are quoted or not in the same way are one.
func joined(l list) list {
	var parts list
	for _, p := range l {
		last := len(parts) - 1
		if last >= 0 && p.Kind == api.Text && parts[last].Kind == api.Text && p.Quoted == parts[last].Quoted {
			parts[last].Text += p.Text
			continue
		}
		parts = append(parts, p)
	}
	return parts
}

// checkModel fails unless Parse returns what the model returns for a string, and unless H3 holds for it. It returns whether the string has parts.
func checkModel(t *testing.T, s string) bool {
	t.Helper()
	want, ok := model(s, false, false)
	err := api.OK
	if !ok {
		err = api.ErrWord
	}
	got, f := Parse(s)
	if f != err || !same(got, want) {
		t.Fatalf("H1: %q: %s and %d, want %s and %d", s, told(got), f, told(want), err)
	}
	if ok {
		checkPrinted(t, s, got)
	}
	return ok
}

// extended calls a function with each string that the bytes of an alphabet, so many at most, make.
func extended(alphabet string, most int, do func(string)) {
	var extend func(s string, more int)
	extend = func(s string, more int) {
		do(s)
		for i := range len(alphabet) {
			if more > 0 {
				extend(s+alphabet[i:i+1], more-1)
			}
		}
	}
	extend("", most)
}

func TestAllShortStrings(t *testing.T) {
	valid := 0
	extended("a1 \\'\"$(){}#-`", 5, func(s string) {
		if checkModel(t, s) {
			valid++
		}
	})
	if valid < 150000 {
		t.Errorf("H1: only %d strings are valid", valid)
	}
}

// TestAllShortBraces has all short strings in braces, quoted and unquoted.
func TestAllShortBraces(t *testing.T) {
	valid := 0
	extended("aZ_09#?@*:-=+% '\"\\$}{", 4, func(s string) {
		if checkModel(t, "${"+s+"}") {
			valid++
		}
		if len(s) < 4 {
			checkModel(t, `"${`+s+`}"`)
			checkModel(t, "${a-"+s+"}")
			checkModel(t, `"${#%`+s+`}"`)
		}
	})
	if valid < 10000 {
		t.Errorf("H1: only %d strings are valid", valid)
	}
}

// TestAllShortParentheses has all short strings in parentheses.
func TestAllShortParentheses(t *testing.T) {
	valid := 0
	extended("a('\"\\$)", 5, func(s string) {
		for _, whole := range []string{"$(" + s, "$((" + s + "))", `"$(` + s + `)"`, "${a-$((" + s + "))}"} {
			if checkModel(t, whole) {
				valid++
			}
		}
	})
	if valid < 15000 {
		t.Errorf("H1: only %d strings are valid", valid)
	}
}

// numbers returns a function that returns the same sequence of numbers in every run.
func numbers(seed int) func(below int) int {
	state := uint64(seed)
	return func(below int) int {
		state = state*6364136223846793005 + 1442695040888963407
		return int(state>>33) % below
	}
}

// somePieces returns a string of a few pieces, which often has units that are closed.
func somePieces(next func(int) int, pieces int) string {
	all := []string{"a", "b c", "1", "#", "-", "é", "\xff", "\n", "$", "$a", "$1", "$@", "{", "}", "(", ")", "\\", "'", `"`, "$(", "${", "${a", "${a-", "${b:=", "$((", "))", ":-", "%%", "''", `""`, "'a'", `"a'b"`, `\'`, `\$`, "${#a}", "${a#b}", "$(a (b))", "$((1))", `"${a+'b'}"`}
	var b strings.Builder
	for range pieces {
		b.WriteString(all[next(len(all))])
	}
	return b.String()
}

// someNest returns a string with units in one another, so many at most, in which something may have been replaced or removed.
func someNest(next func(int) int, depth int) string {
	operators := []string{":-", ":=", ":?", ":+", "%%", "##", "-", "=", "?", "+", "%", "#"}
	var b strings.Builder
	for range 1 + next(3) {
		inner := ""
		if depth > 0 && next(5) > 0 {
			inner = someNest(next, depth-1)
		}
		switch next(12) {
		case 0:
			b.WriteString("a" + inner)
		case 1:
			b.WriteString(`\a$b` + inner)
		case 2:
			b.WriteString("'a b'" + inner)
		case 3, 4:
			b.WriteString(`"` + inner + `"`)
		case 5:
			b.WriteString("$((" + inner + "))")
		case 6:
			b.WriteString("${#a}" + inner)
		default:
			b.WriteString("${a" + operators[next(len(operators))] + inner + "}")
		}
	}
	s := b.String()
	if next(20*depth+20) == 0 {
		at := next(len(s))
		s = s[:at] + []string{"", "'", `"`, `\`, "$", "$(a)", "}"}[next(7)] + s[at+1:]
	}
	return s
}

func TestLongerStrings(t *testing.T) {
	valid := 0
	for seed := range 200000 {
		next := numbers(seed)
		if checkModel(t, somePieces(next, 1+next(12))) {
			valid++
		}
	}
	if valid < 30000 {
		t.Errorf("H1: only %d strings are valid", valid)
	}
}

func TestNestedStrings(t *testing.T) {
	valid := [2]int{}
	for seed := range 20000 {
		next := numbers(seed)
		s := someNest(next, next(6))
		if len(s) > 500 {
			continue
		}
		if checkModel(t, s) {
			valid[1]++
		} else {
			valid[0]++
		}
	}
	if valid[0] < 1000 || valid[1] < 5000 {
		t.Errorf("H1: %d strings are invalid, and %d valid", valid[0], valid[1])
	}
}
