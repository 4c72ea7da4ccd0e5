package arith_test

import (
	"slices"
	"strings"
	"testing"

	"scullion/api"
	"scullion/arith"
)

// nest is what stands before and behind an expression that is so many levels deeper than the nest. If bare, it is no expression but a level 11 that may stand there.
type nest struct {
	before, behind string
	levels         int
	bare           bool
}

// nests are the places of an expression in another one.
var nests = []nest{
	{"(", ")", 1, false},
	{"( ", " )\n", 1, false},
	{"1+(", ")*2", 1, false},
	{"1||(", ")", 1, false},
	{"a=", "", 1, false},
	{"a += ", "", 1, false},
	{"1?", ":2", 1, false},
	{"0 ? ", " : 2", 1, false},
	{"(a = ", ")", 2, false},
	{"-(", ")", 2, false},
	{"1 ? (", ") : 2", 2, false},
	{"1 ? a = ", " : 2", 2, false},
	{"- ~(", ")", 3, false},
	{"-", "", 1, true},
	{"!", "", 1, true},
	{"~ ", "", 1, true},
	{"+", "", 1, true},
	{"- - ", "", 2, true},
	{"1?2:", "", 1, true},
	{"0 ? 1 : ", "", 1, true},
	{"1+", "", 0, true},
	{"1 ? 2 : 3 + ", "", 1, true},
}

// around returns an expression in a nest, so many times.
func (n nest) around(times int, s string) string {
	return strings.Repeat(n.before, times) + s + strings.Repeat(n.behind, times)
}

// checkDepth fails unless an expression whose deepest part has a depth is refused exactly if that is too deep.
func checkDepth(t *testing.T, s string, depth int) {
	t.Helper()
	n, m, e := arith.Eval(s, nil)
	switch {
	case depth <= 30 && e != api.OK:
		t.Errorf("M3: %q with the depth %d: %d", s, depth, e)
	case depth > 30 && (n != 0 || len(m) != 0 || e != api.ErrLong):
		t.Errorf("M3: %q with the depth %d: %d, %v and %d", s, depth, n, m, e)
	}
}

func TestDepth(t *testing.T) {
	for _, n := range nests {
		for times := range 35 {
			depth := 1 + times*n.levels
			checkDepth(t, n.around(times, "1"), depth)
			checkDepth(t, n.around(times, "a"), depth)
			checkDepth(t, n.around(times, "-1"), depth+1)
			checkDepth(t, n.around(times, "(1)"), depth+1)
			checkDepth(t, "("+n.around(times, "1")+")", depth+1)
			checkDepth(t, "2 ? "+n.around(times, "1")+" : 3", depth+1)
			if n.bare {
				continue
			}
			checkDepth(t, n.around(times, "a=1"), depth+1)
			checkDepth(t, n.around(times, "1?2:3"), depth+1)
			checkDepth(t, n.around(times, "1+2*3"), depth)
			checkDepth(t, "a = "+n.around(times, "1"), depth+1)
		}
	}
}

// TestDepthEnds has expressions at several depths one behind the other.
func TestDepthEnds(t *testing.T) {
	deep := strings.Repeat("(", 29) + "1" + strings.Repeat(")", 29)
	minus := strings.Repeat("-", 29) + "1"
	checkValues(t, "M3", []valueCase{
		{deep, 1},
		{deep + "+" + deep, 2},
		{minus, -1},
		{minus + "*" + minus, 1},
		{minus + "-" + minus + "+" + deep, 1},
	})
	inside := deep[1 : len(deep)-1]
	checkValue(t, "M3", deep+" ? "+inside+" : "+inside, 1)
	checkError(t, "M3", deep+" ? "+inside+" : "+deep, api.ErrLong)
	checkError(t, "M3", deep+" ? "+deep+" : 08", api.ErrLong)
	checkError(t, "M3", deep+"+("+deep+")", api.ErrLong)
	checkError(t, "M3", deep+"+-"+minus, api.ErrLong)
	checkIn(t, "M3", strings.Repeat("a=", 29)+"7", nil, 7, []api.Var{set("a", "7")})
	checkValue(t, "M3", strings.Repeat("0?1:", 29)+"7", 7)
	checkValue(t, "M3", strings.Repeat("1?", 29)+"7"+strings.Repeat(":1", 29), 7)
}

// TestWhateverIsThere has what may begin at the depth 31, or not at all, and what does not fit one level before.
func TestWhateverIsThere(t *testing.T) {
	misfits := []string{"", ")", ":", "?", "08", "1x", "$", "\x00", "é", "=", "*", "+=", ")1", "08 + 1"}
	for _, opening := range []string{"(", "1+(", "a=", "a += ", "1?", "0 ? ", "-", "!", "~ ", "1?2:", "1 ? 2 : 3 + "} {
		for _, s := range slices.Concat(misfits, []string{"1", "a", "a=", "(", "-", "1 2", "bad", "1/0", "r = 1"}) {
			checkError(t, "M3", strings.Repeat(opening, 30)+" "+s, api.ErrLong)
			checkError(t, "M3", strings.Repeat(opening, 29)+"- "+s, api.ErrLong)
			checkError(t, "M3", strings.Repeat(opening, 29)+"( "+s, api.ErrLong)
			if !slices.Contains(prefixes, strings.TrimSpace(opening)) {
				checkError(t, "M3", strings.Repeat(opening, 29)+"1? "+s, api.ErrLong)
			}
		}
		for _, s := range misfits {
			checkError(t, "M3", strings.Repeat(opening, 29)+" "+s, api.ErrArith)
			checkError(t, "M3", strings.Repeat(opening, 28)+"- "+s, api.ErrArith)
		}
	}
}

// TestLeftmostError has a token that does not fit, and what is too deep before or behind it.
func TestLeftmostError(t *testing.T) {
	for _, deep := range []string{strings.Repeat("(", 30), strings.Repeat("-", 30), strings.Repeat("a=", 30), strings.Repeat("1?", 30), strings.Repeat("1?2:", 30), strings.Repeat("-(", 15), strings.Repeat("(", 40) + "1" + strings.Repeat(")", 40)} {
		for _, bad := range []string{"08+", "1 2+", ")", "$", "1 a ", "1 ? ) : ", "() + ", "*", "1 = ", "a b = ", "(1)(", "\x00", "é", "1 : "} {
			checkError(t, "M3", bad+deep, api.ErrArith)
			checkError(t, "M3", "("+bad+deep, api.ErrArith)
			checkError(t, "M3", deep+bad, api.ErrLong)
			checkError(t, "M3", "("+deep+bad, api.ErrLong)
		}
		// Errors of the evaluation come behind both.
		for _, late := range []string{"1/0", "bad", "(r = 1)"} {
			checkError(t, "M3", late+"+("+deep, api.ErrLong)
			checkError(t, "M3", "1 || "+late+" || ("+deep, api.ErrLong)
			checkError(t, "M3", late+"+08", api.ErrArith)
		}
	}
}

// TestMixedDepths has made openings, and anything behind them, near the depth 30.
func TestMixedDepths(t *testing.T) {
	anywhere := []string{"(", "-", "!", "1?", "1?2:", "1+(", "~", "0 ? ", "1 || ", "( a %= "}
	first := append([]string{"a=", "b += ", "a %="}, anywhere...)
	behind := []string{"(", ")", ")", ")", "1", "1", "a", "-", "?", ":", ": 2", ": 2", "=", "a=", "+", "*", "08", "$", "b", "/0", "3", " "}
	seen := counts{}
	for seed := range 60000 {
		next := numbers(seed)
		s := ""
		for range 22 + next(14) {
			// An assignment must be a whole expression.
			openings := anywhere
			if s == "" || strings.HasSuffix(strings.TrimSpace(s), "(") || strings.HasSuffix(s, "=") || next(50) == 0 {
				openings = first
			}
			s += openings[next(len(openings))]
		}
		for range next(6) {
			s += behind[next(len(behind))]
		}
		if next(3) > 0 {
			s = closed(s)
		}
		seen[checkModel(t, s, []api.Var{set("a", "3"), set("b", "2")})]++
	}
	seen.check(t, counts{api.OK: 2000, api.ErrArith: 10000, api.ErrLong: 5000})
}

// closed returns a text with what may close all that is open in it.
func closed(s string) string {
	open := []byte{}
	for _, c := range []byte(s) {
		switch {
		case c == '(' || c == '?':
			open = append(open, c)
		case len(open) > 0 && (c == ')' || c == ':'):
			open = open[:len(open)-1]
		}
	}
	s += "4"
	for _, c := range slices.Backward(open) {
		s += map[byte]string{'(': ")", '?': ":5"}[c]
	}
	return s
}

// numbers returns a function that returns the same sequence of numbers in every run.
func numbers(seed int) func(below int) int {
	state := uint64(seed)
	return func(below int) int {
		state = state*6364136223846793005 + 1442695040888963407
		return int(state>>33) % below
	}
}
