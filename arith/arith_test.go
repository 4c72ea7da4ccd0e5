package arith_test

import (
	"slices"
	"strings"
	"testing"

	"scullion/api"
	"scullion/arith"
)

// set returns a variable that is neither exported nor read-only.
func set(name, value string) api.Var { return api.Var{Name: name, Value: value} }

// sample returns variables with values of all sorts.
func sample() []api.Var {
	return []api.Var{
		set("_", "1"),
		set("a", "5"),
		set("bad", "1x"),
		set("empty", ""),
		{Name: "exp", Value: "0x10", Exported: true},
		set("neg", "-7"),
		{Name: "r", Value: "3", ReadOnly: true},
		{Name: "rbad", Value: " 3", ReadOnly: true, Exported: true},
	}
}

// with returns the sample after a variable got another value.
func with(name, value string) []api.Var { return withIn(sample(), name, value) }

// withIn returns variables after one of them got another value, or after it was added.
func withIn(l []api.Var, name, value string) []api.Var {
	at, found := slices.BinarySearchFunc(l, name, func(v api.Var, name string) int { return strings.Compare(v.Name, name) })
	if !found {
		return slices.Insert(slices.Clone(l), at, set(name, value))
	}
	l = slices.Clone(l)
	l[at].Value = value
	return l
}

// checkIn fails unless an expression has a value with variables, and makes others of them.
func checkIn(t *testing.T, promise, s string, l []api.Var, want int, after []api.Var) {
	t.Helper()
	n, m, e := arith.Eval(s, l)
	if n != want || e != api.OK || !slices.Equal(m, after) {
		t.Errorf("%s: %.200q: %d, %.300v and %d, want %d and %.300v", promise, s, n, m, e, want, after)
	}
}

// checkValue fails unless an expression has a value, and leaves the sample as it is.
func checkValue(t *testing.T, promise, s string, want int) {
	t.Helper()
	checkIn(t, promise, s, sample(), want, sample())
}

// checkError fails unless an expression has an error, and nothing beside it.
func checkError(t *testing.T, promise, s string, want api.Errno) {
	t.Helper()
	n, m, e := arith.Eval(s, sample())
	if n != 0 || len(m) != 0 || e != want {
		t.Errorf("%s: %.200q: %d, %v and %d, want %d", promise, s, n, m, e, want)
	}
}

// valueCase is an expression and its value.
type valueCase struct {
	s    string
	want int
}

func checkValues(t *testing.T, promise string, cases []valueCase) {
	t.Helper()
	for _, c := range cases {
		checkValue(t, promise, c.s, c.want)
	}
}

// errorCase is an expression and its error.
type errorCase struct {
	s    string
	want api.Errno
}

func checkErrors(t *testing.T, promise string, cases []errorCase) {
	t.Helper()
	for _, c := range cases {
		checkError(t, promise, c.s, c.want)
	}
}

// changeCase is an expression, its value, and a variable that it sets.
type changeCase struct {
	s           string
	want        int
	name, value string
}

func checkChanges(t *testing.T, promise string, cases []changeCase) {
	t.Helper()
	for _, c := range cases {
		checkIn(t, promise, c.s, sample(), c.want, with(c.name, c.value))
	}
}

func TestExamples(t *testing.T) {
	checkError(t, "M3", "a = 2 + 3 * 4, ..", api.ErrArith)
	checkIn(t, "M3", "(a = 2 + 3 * 4) << 1", nil, 28, []api.Var{set("a", "14")})
	checkIn(t, "M3", "1 || 1/0", nil, 1, nil)
}

func TestBlanksOnly(t *testing.T) {
	for _, s := range []string{"", " ", "\t", "\n", " \t\n \n\t "} {
		checkValue(t, "M3", s, 0)
		checkIn(t, "M3", s, nil, 0, nil)
	}
	for _, s := range []string{"\r", "\v", "\f", "\x00", "\u00a0", "\u2003", " \r", "\n\x00"} {
		checkError(t, "M3", s, api.ErrArith)
	}
}

func TestPrecedence(t *testing.T) {
	checkValues(t, "M3", []valueCase{
		{"1 + 2 * 3", 7},
		{"(1 + 2) * 3", 9},
		{"2 * 3 + 1", 7},
		{"1 << 2 + 1", 8},
		{"1 + 1 << 2", 8},
		{"1 < 2 << 1", 1},
		{"4 >> 1 < 2", 0},
		{"2 == 1 < 2", 0},
		{"1 == 1 < 2", 1},
		{"1 < 2 == 1", 1},
		{"2 & 2 == 2", 0},
		{"3 & 1 == 1", 1},
		{"1 ^ 3 & 2", 3},
		{"2 & 3 ^ 1", 3},
		{"1 | 3 ^ 2", 1},
		{"3 ^ 2 | 2", 3},
		{"2 && 1 | 0", 1},
		{"0 | 2 && 1", 1},
		{"1 || 0 && 0", 1},
		{"0 && 0 || 1", 1},
		{"0 && (0 || 1)", 0},
		{"1 ? 0 : 1 || 1", 0},
		{"0 || 0 ? 2 : 3", 3},
		{"-1 + 2", 1},
		{"-(1 + 2)", -3},
		{"!0 + 1", 2},
		{"!1 == 0", 1},
		{"~0 & 6", 6},
		{"-2 * -3", 6},
		{"- - 5", 5},
		{"-+-~!0", -2},
	})
}

func TestAssociativity(t *testing.T) {
	checkValues(t, "M3", []valueCase{
		{"10 - 3 - 2", 5},
		{"10 - (3 - 2)", 9},
		{"100 / 10 / 5", 2},
		{"100 % 7 % 2", 0},
		{"2 * 7 / 3", 4},
		{"7 / 3 * 2", 4},
		{"7 % 4 * 3 / 2", 4},
		{"1 << 2 << 3", 32},
		{"256 >> 2 >> 1", 32},
		{"1 << 4 >> 2", 4},
		{"3 > 2 > 1", 0},
		{"3 > (2 > 1)", 1},
		{"1 < 2 <= 1", 1},
		{"5 >= 5 > 0", 1},
		{"2 == 2 == 2", 0},
		{"2 != 2 == 0", 1},
		{"5 == 5 != 0", 1},
		{"7 & 3 & 1", 1},
		{"1 ^ 2 ^ 4 ^ 1", 6},
		{"1 | 2 | 4", 7},
		{"0 || 0 || 3", 1},
		{"2 && 3 && 4", 1},
		{"1 ? 2 : 0 ? 3 : 4", 2},
		{"0 ? 2 : 0 ? 3 : 4", 4},
		{"1 ? 0 ? 2 : 3 : 4", 3},
		{"1 ? 1 ? 2 : 3 : 4", 2},
		{"0 ? 1 ? 2 : 3 : 4", 4},
		{"1 - 1 + 1", 1},
		{"1 - -1", 2},
		{"1--1", 2},
		{"1++1", 2},
		{"1+-+-1", 2},
	})
}

func TestTruth(t *testing.T) {
	checkValues(t, "M3", []valueCase{
		{"5 || 0", 1}, {"0 || 5", 1}, {"0 || 0", 0}, {"0 || -1", 1}, {"-3 || 0", 1},
		{"5 && 6", 1}, {"5 && 0", 0}, {"0 && 5", 0}, {"-1 && -1", 1},
		{"!0", 1}, {"!1", 0}, {"!-5", 0}, {"!!7", 1},
		{"~0", -1}, {"~-1", 0}, {"~5", -6},
		{"+5", 5}, {"-0", 0}, {"-5", -5},
		{"1 < 2", 1}, {"2 < 2", 0}, {"2 <= 2", 1}, {"3 <= 2", 0},
		{"3 > 2", 1}, {"2 > 2", 0}, {"2 >= 2", 1}, {"1 >= 2", 0},
		{"2 == 2", 1}, {"2 == 3", 0}, {"2 != 3", 1}, {"2 != 2", 0},
		{"-1 < 0", 1}, {"-1 > 0", 0},
		{"5 ? 1 : 2", 1}, {"-5 ? 1 : 2", 1}, {"0 ? 1 : 2", 2},
	})
}

func TestOperands(t *testing.T) {
	checkValues(t, "M3", []valueCase{
		{"a", 5}, {"_", 1}, {"exp", 16}, {"neg", -7}, {"r", 3}, {"empty", 0},
		{"unknown", 0}, {"A", 0}, {"__", 0}, {"a1", 0}, {"x0", 0}, {"Z_9", 0}, {"x", 0}, {"X1", 0},
		{"a+neg*r", -16}, {"-neg", 7}, {"(a)", 5}, {"((a))", 5}, {"a==5?r:bad", 3},
		{"empty||unknown", 0}, {"_+_", 2},
	})
}

func TestAssignments(t *testing.T) {
	checkChanges(t, "M3", []changeCase{
		{"a = 2 + 3 * 4", 14, "a", "14"},
		{"a=-3", -3, "a", "-3"},
		{"a = 0", 0, "a", "0"},
		{"a = -0", 0, "a", "0"},
		{"a = 010", 8, "a", "8"},
		{"a = 0xFf", 255, "a", "255"},
		{"a = a", 5, "a", "5"},
		{"a += 2", 7, "a", "7"},
		{"a -= 2", 3, "a", "3"},
		{"a *= 2", 10, "a", "10"},
		{"a /= 2", 2, "a", "2"},
		{"a %= 2", 1, "a", "1"},
		{"a += 2 * 3", 11, "a", "11"},
		{"a *= 2 + 3", 25, "a", "25"},
		{"a -= 1 - 1 - 1", 6, "a", "6"},
		{"a /= -2", -2, "a", "-2"},
		{"neg %= 4", -3, "neg", "-3"},
		{"new = 1", 1, "new", "1"},
		{"new += 3", 3, "new", "3"},
		{"new -= 3", -3, "new", "-3"},
		{"A = 1 ? 2 : 3", 2, "A", "2"},
		{"z9 = 0 || 4", 1, "z9", "1"},
		{"empty += 1", 1, "empty", "1"},
		{"exp += 1", 17, "exp", "17"},
		{"bad = 1", 1, "bad", "1"},
		{"(a = 1) + a", 2, "a", "1"},
		{"a + (a = 1)", 6, "a", "1"},
		{"(a = 2) * (a = a + 1)", 6, "a", "3"},
		{"a += a = 3", 6, "a", "6"},
		{"a -= a = 3", 0, "a", "0"},
		{"a += (a = 1) + a", 3, "a", "3"},
		{"1 ? a = 2 : 3", 2, "a", "2"},
		{"0 ? 1 : (a = 2)", 2, "a", "2"},
		{"1 && (a = 0)", 0, "a", "0"},
		{"0 || (a = 7)", 1, "a", "7"},
		{"-(a = 2)", -2, "a", "2"},
	})
	checkIn(t, "M3", "a = c = b = 4", nil, 4, []api.Var{set("a", "4"), set("b", "4"), set("c", "4")})
	checkIn(t, "M3", "(b = 1) + (a = 2) * (c = b + a)", nil, 7, []api.Var{set("a", "2"), set("b", "1"), set("c", "3")})
	checkIn(t, "M3", "a += b -= c *= 2", []api.Var{set("a", "1"), set("b", "2"), set("c", "3")}, -3, []api.Var{set("a", "-3"), set("b", "-4"), set("c", "6")})
	checkIn(t, "M3", "1 ? a = 1 ? b = 2 : 3 : 4", nil, 2, []api.Var{set("a", "2"), set("b", "2")})
}

// TestMarksStay sets a variable that is exported.
func TestMarksStay(t *testing.T) {
	checkIn(t, "M3", "e = 1", []api.Var{{Name: "e", Value: "0", Exported: true}}, 1, []api.Var{{Name: "e", Value: "1", Exported: true}})
}

// TestNotEvaluated has operands that do not matter.
func TestNotEvaluated(t *testing.T) {
	for _, s := range []string{"1/0", "1%0", "bad", "r = 1", "rbad += 1", "a = 1", "a /= 0", "-bad", "(a = 1) + bad", "1 ? a = 1 : bad"} {
		checkValue(t, "M3", "1 || ("+s+")", 1)
		checkValue(t, "M3", "5 || 0 || ("+s+")", 1)
		checkValue(t, "M3", "1 && 2 || ("+s+")", 1)
		checkValue(t, "M3", "1 || ("+s+") || ("+s+")", 1)
		checkValue(t, "M3", "1 || ("+s+") && ("+s+")", 1)
		checkValue(t, "M3", "0 && ("+s+")", 0)
		checkValue(t, "M3", "0 && ("+s+") && ("+s+")", 0)
		checkValue(t, "M3", "0 && ("+s+") || 2", 1)
		checkValue(t, "M3", "1 && 0 && ("+s+")", 0)
		checkValue(t, "M3", "1 ? 2 : ("+s+")", 2)
		checkValue(t, "M3", "0 ? "+s+" : 3", 3)
		checkValue(t, "M3", "1 ? 2 : 0 ? "+s+" : ("+s+")", 2)
		checkValue(t, "M3", "0 ? 1 ? "+s+" : ("+s+") : 3", 3)
	}
	// Both operands of all other operators matter.
	for _, operator := range []string{"*", "&", "|", "<<", ">>", "/", "%", "+", "-", "<", ">", "<=", ">=", "==", "!=", "^"} {
		checkError(t, "M3", "0 "+operator+" bad", api.ErrArith)
		checkError(t, "M3", "1 "+operator+" (1/0)", api.ErrZero)
		checkError(t, "M3", "bad "+operator+" 1/0", api.ErrArith)
	}
}

func TestZero(t *testing.T) {
	for _, s := range []string{"1/0", "0/0", "1%0", "0%0", "-1/0", "1/(2-2)", "1/unknown", "1%empty", "a /= 0", "a %= 0", "new /= 0", "a /= a = 0", "-(1/0)", "!(1%0)", "0 ? 1 : 1/0", "1 && 1/0", "0 || 1%0", "1/0 || 1", "1/0 ? 1 : 2", "r /= 0"} {
		checkError(t, "M3", s, api.ErrZero)
	}
}

func TestReadOnly(t *testing.T) {
	for _, s := range []string{"r = 1", "r = 3", "r += 0", "r /= 1", "1 ? r = 1 : 0", "a = r = 1", "(r = 1) || 1", "1 && (r = 1)", "rbad = 1", "(a = 1) + (r = 1)"} {
		checkError(t, "M3", s, api.ErrRead)
	}
}

// TestFirstError has several errors in one evaluation.
func TestFirstError(t *testing.T) {
	checkErrors(t, "M3", []errorCase{
		{"1/0 + bad", api.ErrZero},
		{"bad + 1/0", api.ErrArith},
		{"bad / 0", api.ErrArith},
		{"1 / bad", api.ErrArith},
		{"0 / 0 / bad", api.ErrZero},
		{"1/0 + (r = 1)", api.ErrZero},
		{"(r = 1) + 1/0", api.ErrRead},
		{"(r = 1) + bad", api.ErrRead},
		{"bad + (r = 1)", api.ErrArith},
		{"r = 1/0", api.ErrZero},
		{"r = bad", api.ErrArith},
		{"r /= 0", api.ErrZero},
		{"r += bad", api.ErrArith},
		{"rbad += 1", api.ErrArith},
		{"rbad += 1/0", api.ErrZero},
		{"bad += r = 1", api.ErrRead},
		{"bad += 1", api.ErrArith},
		{"bad /= 0", api.ErrArith},
		{"bad ? 1/0 : 2", api.ErrArith},
		{"1/0 ? bad : 2", api.ErrZero},
		{"bad || 1", api.ErrArith},
		{"bad && 0", api.ErrArith},
		// An error of the text comes before all of them.
		{"1/0 1", api.ErrArith},
		{"(r = 1) )", api.ErrArith},
		{"1/0 +", api.ErrArith},
		{"1 || 08", api.ErrArith},
		{"1 ? 2 : 1x", api.ErrArith},
	})
	// What was bad may be mended first.
	checkIn(t, "M3", "(bad = 1) + bad", sample(), 2, with("bad", "1"))
	checkIn(t, "M3", "bad += bad = 2", sample(), 4, with("bad", "4"))
}

// TestMemory has arguments that must stay as they are.
func TestMemory(t *testing.T) {
	for _, s := range []string{"", "a", "a = 1", "new = 1", "A = 2", "zz = 3", "(a = 1) + (new = 2)", "a = bad", "(a = 1) + (r = 1)"} {
		room := append(sample(), set("beyond", "1"), set("further", "2"))
		l := room[: len(sample()) : len(room)-1]
		_, m, _ := arith.Eval(s, l)
		if !slices.Equal(room, append(sample(), set("beyond", "1"), set("further", "2"))) {
			t.Errorf("R3: %q: the argument is %v", s, room)
		}
		for i := range m {
			m[i] = set("other", "")
		}
		if !slices.Equal(l, sample()) {
			t.Errorf("%q: the result shares memory with the argument", s)
		}
	}
}

// TestOtherLists has lists that may not be, for which the calls must only end.
func TestOtherLists(t *testing.T) {
	for _, l := range [][]api.Var{{set("b", "1"), set("a", "2")}, {set("a", "1"), set("a", "2")}, {set("", "1")}, {set("1", "1"), set("", "2"), set("a", "3"), set("A", "4")}} {
		for _, s := range []string{"a", "a = 1", "a += b = 2", "(c = 1) + (d = a) + (A = b)"} {
			arith.Eval(s, l)
		}
	}
}
