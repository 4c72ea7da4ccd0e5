package arith_test

import (
	"maps"
	"math/big"
	"regexp"
	"slices"
	"strings"
	"testing"

	"scullion/api"
	"scullion/arith"
)

var (
	modelToken  = regexp.MustCompile(`(?s)^[ \t\n]*([A-Za-z0-9_]+|<<|>>|<=|>=|==|!=|&&|\|\||[-+*/%]=|[^ \t\n])`)
	modelName   = regexp.MustCompile(`^[A-Za-z_][A-Za-z0-9_]*$`)
	modelNumber = regexp.MustCompile(`^(0[xX][0-9a-fA-F]+|0[0-7]*|[1-9][0-9]*)$`)
	largest     = new(big.Int).SetUint64(1<<63 - 1)
)

// modelTokens returns the tokens of a text.
func modelTokens(s string) []string {
	var tokens []string
	for {
		found := modelToken.FindStringSubmatch(s)
		if found == nil {
			return tokens
		}
		tokens = append(tokens, found[1])
		s = s[len(found[0]):]
	}
}

// modelLiteral returns the value of a number literal.
func modelLiteral(s string) (int, bool) {
	if !modelNumber.MatchString(s) {
		return 0, false
	}
	// In these bases the library's forms are the same, and an octal literal may begin with a zero alone.
	n, ok := new(big.Int).SetString(s, 0)
	if !ok || n.Cmp(largest) > 0 {
		return 0, false
	}
	return int(n.Int64()), true
}

// modelValue returns the numeric value of a variable with a Value.
func modelValue(s string) (int, bool) {
	switch {
	case s == "":
		return 0, true
	case s[0] == '-':
		n, ok := modelLiteral(s[1:])
		return -n, ok
	}
	return modelLiteral(s)
}

// levelIn returns the level of a binary operator, the loosest being 1, or 0 for another token.
func levelIn(token string) int {
	return 1 + slices.IndexFunc(binaries, func(level []string) bool { return slices.Contains(level, token) })
}

// modelCheck returns the error of the tokens of a text. It goes by what is open before each of them: `(`, a prefix (`-`), an assignment (`=`), and a conditional before and behind its colon (`?`, `:`), each of which is one level.
func modelCheck(tokens []string) api.Errno {
	open, operand, first := []string{}, true, true
	pop := func(kinds string) {
		for len(open) > 0 && strings.Contains(kinds, open[len(open)-1]) {
			open = open[:len(open)-1]
		}
	}
	top := func(kind string) bool { return len(open) > 0 && open[len(open)-1] == kind }
	tokens = append(slices.Clone(tokens), "")
	for i := 0; i < len(tokens); i++ {
		token := tokens[i]
		switch _, number := modelLiteral(token); {
		case operand && len(open) >= 30:
			return api.ErrLong
		case operand && slices.Contains(prefixes, token):
			open, first = append(open, "-"), false
		case operand && token == "(":
			open, first = append(open, "("), true
		case operand && first && modelName.MatchString(token) && slices.Contains(setters, tokens[i+1]):
			open = append(open, "=")
			i++
		case operand && (number || modelName.MatchString(token)):
			pop("-")
			operand = false
		case !operand && levelIn(token) > 0:
			operand, first = true, false
		case !operand && token == "?":
			open, operand, first = append(open, "?"), true, true
		case !operand && token == ":":
			if pop("=:"); !top("?") {
				return api.ErrArith
			}
			open[len(open)-1], operand, first = ":", true, false
		case !operand && token == ")":
			if pop("=:"); !top("(") {
				return api.ErrArith
			}
			open = open[:len(open)-1]
			pop("-")
		case !operand && token == "":
			if pop("=:"); len(open) > 0 {
				return api.ErrArith
			}
		default:
			return api.ErrArith
		}
	}
	return api.OK
}

// evaluation has variables by their names, and the first error.
type evaluation struct {
	variables map[string]api.Var
	err       api.Errno
}

// fail keeps an error unless there was one.
func (v *evaluation) fail(err api.Errno) {
	if v.err == api.OK {
		v.err = err
	}
}

func (v *evaluation) get(name string) *big.Int {
	n, ok := modelValue(v.variables[name].Value)
	if !ok {
		v.fail(api.ErrArith)
	}
	return big.NewInt(int64(n))
}

// value returns the value of the tokens of a valid expression, which it parts at the operators that bind least. Behind an error it doesn't matter.
func (v *evaluation) value(tokens []string) *big.Int {
	if len(tokens) > 1 && slices.Contains(setters, tokens[1]) {
		return v.assign(tokens[0], tokens[1][:len(tokens[1])-1], tokens[2:])
	}
	depth, question := 0, -1
	split := make([]int, len(binaries)+1) // the last operator of each level
	for i, token := range tokens {
		switch level := levelIn(token); {
		case token == "(":
			depth++
		case token == ")":
			depth--
		case depth == 0 && token == "?" && question < 0:
			question = i
		case depth == 0 && level > 0 && question < 0 && i > 0 && (levelIn(tokens[i-1]) == 0 && !slices.Contains(prefixes, tokens[i-1])):
			split[level] = i
		}
	}
	if question >= 0 {
		return v.choose(tokens[:question], tokens[question+1:])
	}
	for _, at := range split {
		if at > 0 {
			return v.join(tokens[:at], tokens[at], tokens[at+1:])
		}
	}
	switch token := tokens[0]; {
	case token == "(":
		return v.value(tokens[1 : len(tokens)-1])
	case slices.Contains(prefixes, token):
		return prefixed(token, v.value(tokens[1:]))
	case modelName.MatchString(token):
		return v.get(token)
	}
	n, _ := modelLiteral(tokens[0])
	return big.NewInt(int64(n))
}

func (v *evaluation) assign(name, operator string, tokens []string) *big.Int {
	n := v.value(tokens)
	if operator != "" && v.err == api.OK {
		n = v.calculate(v.get(name), operator, n)
	}
	if v.variables[name].ReadOnly {
		v.fail(api.ErrRead)
	}
	if v.err == api.OK {
		v.variables[name] = api.Var{Name: name, Value: n.String(), Exported: v.variables[name].Exported}
	}
	return n
}

// choose returns the value of a conditional, given what stands before and behind its question mark.
func (v *evaluation) choose(condition, rest []string) *big.Int {
	open, questions := 0, 0
	for i, token := range rest {
		switch {
		case token == "(":
			open++
		case token == ")":
			open--
		case open == 0 && token == "?":
			questions++
		case open == 0 && token == ":" && questions > 0:
			questions--
		case open == 0 && token == ":":
			if v.value(condition).Sign() != 0 {
				return v.value(rest[:i])
			}
			return v.value(rest[i+1:])
		}
	}
	panic("no colon")
}

func (v *evaluation) join(first []string, operator string, second []string) *big.Int {
	a := v.value(first)
	is := a.Sign() != 0
	switch {
	case operator == "||":
		return one(is || v.value(second).Sign() != 0)
	case operator == "&&":
		return one(is && v.value(second).Sign() != 0)
	case v.err != api.OK:
		return a
	}
	return v.calculate(a, operator, v.value(second))
}

// calculate returns the value of an operator between two numbers.
func (v *evaluation) calculate(a *big.Int, operator string, b *big.Int) *big.Int {
	if (operator == "/" || operator == "%") && b.Sign() == 0 {
		v.fail(api.ErrZero)
		return a
	}
	return calculated(a, operator, b)
}

// calculated returns the value of an operator between two numbers without bounds, wrapped around at the end.
func calculated(a *big.Int, operator string, b *big.Int) *big.Int {
	n := new(big.Int)
	bits := uint(new(big.Int).And(b, big.NewInt(63)).Uint64())
	switch operator {
	case "+":
		return wrapped(n.Add(a, b))
	case "-":
		return wrapped(n.Sub(a, b))
	case "*":
		return wrapped(n.Mul(a, b))
	case "/":
		return wrapped(n.Quo(a, b))
	case "%":
		return wrapped(n.Rem(a, b))
	case "<<":
		return wrapped(n.Lsh(a, bits))
	case ">>":
		return n.Rsh(a, bits)
	case "&":
		return n.And(a, b)
	case "|":
		return n.Or(a, b)
	case "^":
		return n.Xor(a, b)
	case "<":
		return one(a.Cmp(b) < 0)
	case "<=":
		return one(a.Cmp(b) <= 0)
	case ">":
		return one(a.Cmp(b) > 0)
	case ">=":
		return one(a.Cmp(b) >= 0)
	case "==":
		return one(a.Cmp(b) == 0)
	case "!=":
		return one(a.Cmp(b) != 0)
	}
	panic("no operator: " + operator)
}

// prefixed returns the value of an operator before a number.
func prefixed(operator string, a *big.Int) *big.Int {
	switch operator {
	case "-":
		return wrapped(new(big.Int).Neg(a))
	case "~":
		return new(big.Int).Not(a)
	case "!":
		return one(a.Sign() == 0)
	}
	return a
}

func one(is bool) *big.Int {
	if is {
		return big.NewInt(1)
	}
	return big.NewInt(0)
}

// wrapped returns the number of 64 bits, with a sign, that has the same lowest 64 bits.
func wrapped(n *big.Int) *big.Int {
	around := new(big.Int).Lsh(big.NewInt(1), 64)
	n = new(big.Int).Mod(n, around)
	if n.Cmp(largest) > 0 {
		n.Sub(n, around)
	}
	return n
}

// model returns what Eval returns.
func model(s string, l []api.Var) (int, []api.Var, api.Errno) {
	tokens := modelTokens(s)
	if len(tokens) == 0 {
		return 0, l, api.OK
	}
	if err := modelCheck(tokens); err != api.OK {
		return 0, nil, err
	}
	v := evaluation{variables: map[string]api.Var{}}
	for _, variable := range l {
		v.variables[variable.Name] = variable
	}
	n := v.value(tokens)
	if v.err != api.OK {
		return 0, nil, v.err
	}
	var m []api.Var
	for _, name := range slices.Sorted(maps.Keys(v.variables)) {
		m = append(m, v.variables[name])
	}
	return int(n.Int64()), m, api.OK
}

// evalIn calls Eval with a copy of variables.
func evalIn(s string, l []api.Var) (int, []api.Var, api.Errno) { return arith.Eval(s, slices.Clone(l)) }

// checkModel fails unless Eval returns what the model returns, and returns the error.
func checkModel(t *testing.T, s string, l []api.Var) api.Errno {
	t.Helper()
	n, m, e := evalIn(s, l)
	want, after, err := model(s, l)
	if n != want || e != err || !slices.Equal(m, after) {
		t.Fatalf("M3: %.500q: %d, %v and %d, want %d, %v and %d", s, n, m, e, want, after, err)
	}
	return e
}

// extended calls a function with each string that the bytes of an alphabet, so many at most, make.
func extended(alphabet string, most int, do func(string)) {
	sequences(strings.Split(alphabet, ""), most, do)
}

// sequences calls a function with each text that pieces, so many at most, make.
func sequences(pieces []string, most int, do func(string)) {
	var extend func(s string, more int)
	extend = func(s string, more int) {
		do(s)
		if more == 0 {
			return
		}
		for _, piece := range pieces {
			extend(s+piece, more-1)
		}
	}
	extend("", most)
}

// counts counts the errors of many expressions.
type counts map[api.Errno]int

// check fails unless there were so many of each.
func (c counts) check(t *testing.T, least counts) {
	t.Helper()
	for err, n := range least {
		if c[err] < n {
			t.Errorf("M3: only %d expressions have the error %d", c[err], err)
		}
	}
}

func TestAllShortTexts(t *testing.T) {
	seen := counts{}
	extended("a01x8=<>&|+-*!?:() ", 4, func(s string) {
		seen[checkModel(t, s, []api.Var{set("a", "7")})]++
	})
	seen.check(t, counts{api.OK: 5000, api.ErrArith: 100000})
}

// TestAllShortSequences has all sequences of some tokens.
func TestAllShortSequences(t *testing.T) {
	l := []api.Var{set("a", "3"), set("b", "b"), {Name: "r", Value: "2", ReadOnly: true}}
	for _, pieces := range []string{"a r 0 ( ) - = += ? : || /", "a b r 0 5 = /= && + ? :", "0 2 ( ) - ~ * % ? :", "1 2 + * << < == & ^ | && ||"} {
		seen := counts{}
		sequences(strings.SplitAfter(pieces, " "), 5, func(s string) {
			seen[checkModel(t, s, l)]++
		})
		seen.check(t, counts{api.OK: 300, api.ErrArith: 50000})
	}
}

// TestBinarySequences has three operators between numbers, by all of which it can be told which of them binds most.
func TestBinarySequences(t *testing.T) {
	operators := slices.Concat(binaries...)
	for _, a := range operators {
		for _, b := range operators {
			for _, c := range operators {
				for _, numbers := range [][4]string{{"7", "2", "3", "1"}, {"0", "5", "0", "9"}, {"-9", "4", "-1", "6"}, {"1", "0", "12", "2"}} {
					checkModel(t, numbers[0]+a+numbers[1]+b+numbers[2]+c+numbers[3], nil)
				}
			}
		}
	}
}
