package arith_test

import (
	"math"
	"slices"
	"strconv"
	"strings"
	"testing"

	"scullion/api"
	"scullion/arith"
)

// truth returns the number for what is true or false.
func truth(is bool) int {
	if is {
		return 1
	}
	return 0
}

// calculations are the operators in Go's arithmetic of 64 bits.
var calculations = map[string]func(a, b int) int{
	"+":  func(a, b int) int { return a + b },
	"-":  func(a, b int) int { return a - b },
	"*":  func(a, b int) int { return a * b },
	"/":  func(a, b int) int { return a / b },
	"%":  func(a, b int) int { return a % b },
	"<<": func(a, b int) int { return int(uint64(a) << (uint64(b) % 64)) },
	">>": func(a, b int) int { return a >> (uint64(b) % 64) },
	"&":  func(a, b int) int { return a & b },
	"|":  func(a, b int) int { return a | b },
	"^":  func(a, b int) int { return a ^ b },
	"<":  func(a, b int) int { return truth(a < b) },
	"<=": func(a, b int) int { return truth(a <= b) },
	">":  func(a, b int) int { return truth(a > b) },
	">=": func(a, b int) int { return truth(a >= b) },
	"==": func(a, b int) int { return truth(a == b) },
	"!=": func(a, b int) int { return truth(a != b) },
	"&&": func(a, b int) int { return truth(a != 0 && b != 0) },
	"||": func(a, b int) int { return truth(a != 0 || b != 0) },
}

// edges are numbers at which something changes.
var edges = []int{0, 1, 2, 3, 5, 7, 8, 31, 32, 33, 62, 63, 64, 65, 127, 128, 1000, math.MaxInt32 - 1, math.MaxInt32, math.MaxInt32 + 1, math.MaxUint32, math.MaxUint32 + 1, 3037000499, 3037000500, 1 << 62, 1<<62 - 1, 1<<62 + 1, math.MaxInt - 1, math.MaxInt}

// written returns the ways to write a number as literals.
func written(n int) []string {
	return []string{strconv.Itoa(n), "0" + strconv.FormatInt(int64(n), 8), "0x" + strconv.FormatInt(int64(n), 16), "0X" + strings.ToUpper(strconv.FormatInt(int64(n), 16))}
}

// checkCalculation fails unless an operator between two texts has the value that it has for their values.
func checkCalculation(t *testing.T, a, operator, b string, x, y int) {
	t.Helper()
	for _, s := range []string{a + operator + b, a + " " + operator + "\t" + b} {
		if (operator == "/" || operator == "%") && y == 0 {
			checkError(t, "M4", s, api.ErrZero)
		} else {
			checkValue(t, "M4", s, calculations[operator](x, y))
		}
	}
}

// TestTwoNumbers has all operators between all edges, with and without signs.
func TestTwoNumbers(t *testing.T) {
	for operator := range calculations {
		for i, x := range edges {
			for k, y := range edges {
				a, b := written(x)[(i+k)%4], written(y)[i%4]
				checkCalculation(t, a, operator, b, x, y)
				checkCalculation(t, "-"+a, operator, b, -x, y)
				checkCalculation(t, a, operator, "-"+b, x, -y)
				checkCalculation(t, "~"+a, operator, "~"+b, ^x, ^y)
				checkCalculation(t, "-"+a, operator, "-"+b, -x, -y)
			}
		}
	}
}

func TestWrapAround(t *testing.T) {
	const most, least = "9223372036854775807", "(-9223372036854775807 - 1)"
	checkValues(t, "M4", []valueCase{
		{most + " + 1", math.MinInt},
		{least + " - 1", math.MaxInt},
		{"-" + least, math.MinInt},
		{"~" + least, math.MaxInt},
		{"!" + least, 0},
		{least + " * -1", math.MinInt},
		{least + " / -1", math.MinInt},
		{least + " % -1", 0},
		{least + " / 1", math.MinInt},
		{most + " * " + most, 1},
		{most + " * 2", -2},
		{least + " + " + least, 0},
		{"1 << 63", math.MinInt},
		{"1 << 64", 1},
		{"1 << 65", 2},
		{"1 << -1", math.MinInt},
		{"1 << -64", 1},
		{"3 << 63", math.MinInt},
		{least + " >> 63", -1},
		{least + " >> 64", math.MinInt},
		{"-1 >> 1", -1},
		{"-8 >> 1", -4},
		{"-9 >> 1", -5},
		{"-1 >> -1", -1},
		{most + " >> 62", 1},
		{"7 / 2", 3}, {"-7 / 2", -3}, {"7 / -2", -3}, {"-7 / -2", 3},
		{"7 % 2", 1}, {"-7 % 2", -1}, {"7 % -2", 1}, {"-7 % -2", -1},
	})
	checkChanges(t, "M3", []changeCase{
		{"n = " + least, math.MinInt, "n", "-9223372036854775808"},
		{"n = " + most, math.MaxInt, "n", most},
		{"n = " + most + " + 1", math.MinInt, "n", "-9223372036854775808"},
		{"n -= " + least, math.MinInt, "n", "-9223372036854775808"},
	})
	// The least number has no negated literal, so that such a Value has no numeric value.
	checkError(t, "M2", "(n = "+least+") + n", api.ErrArith)
	checkError(t, "M1", "-9223372036854775808", api.ErrArith)
}

// maker makes expressions, as tokens that need no blanks between them.
type maker struct {
	next func(int) int
	size int // how many more parts there may be
}

// pick returns one of some texts.
func (m *maker) pick(texts ...string) []string { return []string{texts[m.next(len(texts))]} }

// expression returns an expression which nests in so many levels at most.
func (m *maker) expression(levels int) []string {
	m.size--
	if levels > 0 && m.size > 0 && m.next(6) == 0 {
		return slices.Concat(m.pick("a", "b", "c", "r"), m.pick(setters...), m.expression(levels-1))
	}
	return m.conditional(levels)
}

func (m *maker) conditional(levels int) []string {
	condition := m.join(1, levels)
	if levels > 0 && m.size > 0 && m.next(5) == 0 {
		return slices.Concat(condition, []string{"?"}, m.expression(levels-1), []string{":"}, m.conditional(levels-1))
	}
	return condition
}

func (m *maker) join(level, levels int) []string {
	if level > len(binaries) {
		return m.operand(levels)
	}
	s := m.join(level+1, levels)
	for m.size > 0 && m.next(12) == 0 {
		m.size--
		s = slices.Concat(s, m.pick(binaries[level-1]...), m.join(level+1, levels))
	}
	return s
}

func (m *maker) operand(levels int) []string {
	switch kind := m.next(6); {
	case levels > 0 && kind == 0:
		return slices.Concat(m.pick(prefixes...), m.operand(levels-1))
	case levels > 0 && kind < 3 && m.size > 0:
		return slices.Concat([]string{"("}, m.expression(levels-1), []string{")"})
	case kind == 3:
		return m.pick("a", "b", "c", "r", "_", "d0")
	}
	return m.pick("0", "1", "2", "07", "0x1F", "9223372036854775807", "63", "100")
}

// made returns an expression that has a seed, and variables for it.
func made(seed int) ([]string, []api.Var) {
	m := &maker{next: numbers(seed), size: 3 + seed%20}
	l := []api.Var{set("_", "0x7f"), set("a", "5"), {Name: "b", Value: "-3", Exported: true}}
	if seed%3 == 0 {
		l = append(l, set("d0", "1.5"))
	}
	if seed%4 == 0 {
		l = append(l, api.Var{Name: "r", Value: "1", ReadOnly: true})
	}
	return m.expression(1 + m.next(6)), l
}

// blanked returns tokens with blanks around them, at least where two of them would be one or others.
func blanked(tokens []string, next func(int) int) string {
	s := ""
	for i, token := range tokens {
		blanks := []string{"", "", " ", "\t", "\n", " \t \n "}[next(6)]
		if blanks == "" && i > 0 && !slices.Equal(modelTokens(tokens[i-1]+token), []string{tokens[i-1], token}) {
			blanks = " "
		}
		s += blanks + token
	}
	return s + []string{"", " ", "\n\n", "\t"}[next(4)]
}

// TestMade has made expressions, with all blanks and with few, and in parentheses.
func TestMade(t *testing.T) {
	seen := counts{}
	for seed := range 60000 {
		tokens, l := made(seed)
		s := strings.Join(tokens, " ")
		seen[checkModel(t, s, l)]++
		n, m, e := evalIn(s, l)
		next := numbers(seed + 1)
		for _, other := range []string{blanked(tokens, next), blanked(slices.Concat([]string{"("}, tokens, []string{")"}), next), " ( (\t" + s + ")\n)"} {
			k, o, f := evalIn(other, l)
			if n != k || e != f || !slices.Equal(m, o) {
				t.Fatalf("M4: %q: %d, %v and %d, but %q: %d, %v and %d", s, n, m, e, other, k, o, f)
			}
		}
	}
	seen.check(t, counts{api.OK: 20000, api.ErrArith: 500, api.ErrZero: 500, api.ErrRead: 500})
}

// TestBroken has made expressions in which a token is left out, added or exchanged.
func TestBroken(t *testing.T) {
	seen := counts{}
	others := append(slices.Concat(binaries...), "(", ")", "?", ":", "!", "~", "=", "+=", "a", "1", "08", "$", "")
	for seed := range 60000 {
		tokens, l := made(seed)
		next := numbers(seed + 7)
		at := next(len(tokens))
		switch tokens = slices.Clone(tokens); next(3) {
		case 0:
			tokens = slices.Delete(tokens, at, at+1)
		case 1:
			tokens = slices.Insert(tokens, at, others[next(len(others))])
		default:
			tokens[at] = others[next(len(others))]
		}
		seen[checkModel(t, strings.Join(tokens, " "), l)]++
	}
	seen.check(t, counts{api.OK: 3000, api.ErrArith: 20000})
}

// TestParentheses puts parentheses around each part of expressions, whose text tells what binds.
func TestParentheses(t *testing.T) {
	parts := []string{"1", "a", "-1", "(1)", "2*3", "7-4", "1<<3", "2<1", "4==4", "6&3", "6^3", "6|3", "1&&0", "1||0", "1?2:3", "a=4", "a+=4"}
	for _, part := range parts {
		want, _, _ := evalIn(part, sample())
		for _, s := range []string{"(" + part + ")", "((" + part + "))", "+(" + part + ")", "-(-(" + part + "))", "0+(" + part + ")", "1*(" + part + ")", "(" + part + ")|0", "1?(" + part + "):7", "0?7:(" + part + ")"} {
			n, m, e := evalIn(s, sample())
			k, o, f := evalIn(part, sample())
			if n != want || n != k || e != f || !slices.Equal(m, o) {
				t.Errorf("M4: %q: %d, %v and %d, but %q: %d, %v and %d", s, n, m, e, part, k, o, f)
			}
		}
	}
}

// TestAssignedName asks for names that were assigned to, in the same and in another expression.
func TestAssignedName(t *testing.T) {
	for seed := range 20000 {
		tokens, l := made(seed)
		s := strings.Join(tokens, " ")
		n, _, e := evalIn(s, l)
		for _, name := range []string{"a", "x", "_", "z9_"} {
			_, after, f := evalIn(name+" = "+s, l)
			if e != f {
				t.Fatalf("M4: %q: %d, but behind %q: %d", s, e, name, f)
			}
			if e != api.OK || n == math.MinInt {
				continue
			}
			checkIn(t, "M4", name, after, n, after)
			k, again, f := evalIn("("+name+" = "+s+") == "+name, l)
			if k != 1 || f != api.OK || !slices.Equal(again, after) {
				t.Fatalf("M4: %q = %q: %d, %v and %d", name, s, k, again, f)
			}
		}
	}
}

// TestSameAgain calls Eval in another order, with the same arguments.
func TestSameAgain(t *testing.T) {
	type result struct {
		n int
		m []api.Var
		e api.Errno
	}
	var results []result
	for seed := range 500 {
		tokens, l := made(seed)
		n, m, e := arith.Eval(strings.Join(tokens, " "), l)
		results = append(results, result{n, m, e})
	}
	for seed, before := range slices.Backward(results) {
		tokens, l := made(seed)
		n, m, e := arith.Eval(strings.Join(tokens, " "), l)
		if n != before.n || e != before.e || !slices.Equal(m, before.m) {
			t.Errorf("R4: seed %d: %d, %v and %d, then %d, %v and %d", seed, before.n, before.m, before.e, n, m, e)
		}
	}
}
