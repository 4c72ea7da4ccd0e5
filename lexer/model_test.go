package lexer

import (
	"slices"
	"strings"
	"testing"

	"scullion/api"
)

// model returns the tokens of a script, or false if it has an invalid unit. It goes from byte to byte with a stack of what is open, instead of unit by unit.
func model(s string) (list, bool) {
	var l list
	var open []byte // the closing bytes of the open units
	start := -1     // where the current word began
	i := 0
	for i < len(s) {
		c, two := s[i], s[i:min(i+2, len(s))]
		if len(open) == 0 {
			ends := strings.ContainsRune(" \t\n;|&()<>", rune(c))
			if start >= 0 && ends {
				l = append(l, word(s[start:i]))
				start = -1
			}
			if start < 0 {
				switch {
				case c == '#':
					for i < len(s) && s[i] != '\n' {
						i++
					}
					continue
				case c == '\n':
					l = append(l, line())
					i++
					continue
				case c == ' ' || c == '\t':
					i++
					continue
				case two == "&&" || two == "||" || two == ";;" || two == ">>":
					l = append(l, op(two))
					i += 2
					continue
				case ends:
					l = append(l, op(string(c)))
					i++
					continue
				}
				start = i
			}
		} else if c == open[len(open)-1] {
			open = open[:len(open)-1]
			i++
			continue
		}
		if len(open) >= 30 {
			return nil, false
		}
		within := byte(0)
		if len(open) > 0 {
			within = open[len(open)-1]
		}
		switch {
		case c == '\\':
			if len(two) < 2 {
				return nil, false
			}
			i += 2
		case c == '\'' && within != '"':
			n := strings.IndexByte(s[i+1:], '\'')
			if n < 0 {
				return nil, false
			}
			i += n + 2
		case two == "$(" || two == "${":
			open = append(open, map[string]byte{"$(": ')', "${": '}'}[two])
			i += 2
		case c == '"' || c == '(' && within == ')':
			open = append(open, map[byte]byte{'"': '"', '(': ')'}[c])
			i++
		default:
			i++
		}
	}
	if len(open) > 0 {
		return nil, false
	}
	if start >= 0 {
		l = append(l, word(s[start:]))
	}
	return l, true
}

// checkModel fails unless Tokens returns what the model returns, and returns that.
func checkModel(t *testing.T, script string) (list, bool) {
	t.Helper()
	want, ok := model(script)
	err := api.OK
	if !ok {
		err = api.ErrQuote
	}
	if got, f := Tokens(script); f != err || !slices.Equal(got, want) {
		t.Fatalf("G1: %q: %s and %d, want %s and %d", script, told(got), f, told(want), err)
	}
	return want, ok
}

// numbers returns a function that returns the same sequence of numbers in every run.
func numbers(seed int) func(below int) int {
	state := uint64(seed)
	return func(below int) int {
		state = state*6364136223846793005 + 1442695040888963407
		return int(state>>33) % below
	}
}

// TestAllShortScripts holds all short scripts of the bytes that mean something against the model.
func TestAllShortScripts(t *testing.T) {
	const alphabet = "a \n'\"\\$(){}#;>"
	valid := 0
	var extend func(script string, more int)
	extend = func(script string, more int) {
		if _, ok := checkModel(t, script); ok {
			valid++
		}
		for i := range len(alphabet) {
			if more > 0 {
				extend(script+alphabet[i:i+1], more-1)
			}
		}
	}
	extend("", 5)
	if valid < 100000 {
		t.Errorf("G1: only %d scripts are valid", valid)
	}
}

// someScript returns a script of a few pieces, which often has units that are closed.
func someScript(next func(int) int, pieces int) string {
	all := []string{"a", "b", "#", "$", "{", "}", "(", ")", "\\", "'", `"`, ";", "&", "|", "<", ">", ">>", "&&", "||", ";;", "$(", "${", "$((", "'a b'", `"a 'b"`, "$(a (b))", "${a b}", `\"`, `\'`, "\\\n", "\n", "\n", " ", " ", "\t", " # a'b\n", "é", "\x00"}
	var b strings.Builder
	for range pieces {
		b.WriteString(all[next(len(all))])
	}
	return b.String()
}

// someNest returns a script with units in one another, so many at most, in which something may have been replaced or removed.
func someNest(next func(int) int, depth int) string {
	var b strings.Builder
	for range 1 + next(3) {
		inner := ""
		if depth > 0 && next(5) > 0 {
			inner = someNest(next, depth-1)
		}
		switch next(8) {
		case 0:
			b.WriteString("a" + inner)
		case 1, 2:
			b.WriteString(`"` + inner + `"`)
		case 3, 4:
			b.WriteString("$(" + inner + ")")
		case 5, 6:
			b.WriteString("${" + inner + "}")
		case 7:
			b.WriteString("(" + inner + ")")
		}
		if b.Len() > 2000 {
			break
		}
	}
	script := b.String()
	if next(10*depth+10) == 0 {
		at := next(len(script))
		script = script[:at] + []string{"", "'", `"`, `\`, " ", "'a'"}[next(6)] + script[at+1:]
	}
	return script
}

func TestLongerScripts(t *testing.T) {
	valid := 0
	for seed := range 100000 {
		next := numbers(seed)
		if _, ok := checkModel(t, someScript(next, 1+next(20))); ok {
			valid++
		}
	}
	if valid < 20000 {
		t.Errorf("G1: only %d scripts are valid", valid)
	}
}

func TestNestedScripts(t *testing.T) {
	valid := [2]int{}
	for seed := range 3000 {
		next := numbers(seed)
		script := someNest(next, next(45))
		if len(script) > 20000 {
			continue
		}
		if _, ok := checkModel(t, script); ok {
			valid[1]++
		} else {
			valid[0]++
		}
	}
	if valid[0] < 500 || valid[1] < 500 {
		t.Errorf("G1: %d scripts are invalid, and %d valid", valid[0], valid[1])
	}
}
