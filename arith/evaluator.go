package arith

import (
	"slices"
	"strconv"
	"strings"

	"scullion/api"
	"scullion/vars"
)

// evaluator evaluates expressions with variables, which assignments change. Each method that evaluates something raises an error where it has no value.
type evaluator struct{ variables []api.Var }

// value returns the value of an expression.
func (v *evaluator) value(e *expression) int {
	switch e.kind {
	case literal:
		return e.number
	case variable:
		return v.get(e.name)
	case assignment:
		return v.assign(e)
	case prefixed:
		return changed(e.operator, v.value(e.first))
	case choice:
		return v.choose(e)
	}
	return v.join(e)
}

// get returns the numeric value of a variable.
func (v *evaluator) get(name string) int {
	found, _ := vars.Get(v.variables, name)
	n, ok := numericValue(found.Value)
	check(ok, api.ErrArith)
	return n
}

// assign sets a variable, and returns its new value.
func (v *evaluator) assign(e *expression) int {
	n := v.value(e.first)
	if operator := strings.TrimSuffix(e.operator, "="); operator != "" {
		n = joined(operator, v.get(e.name), n)
	}
	variables, f := vars.Set(v.variables, e.name, strconv.Itoa(n))
	check(f == api.OK, f)
	v.variables = variables
	return n
}

// choose returns the value of one alternative of a conditional.
func (v *evaluator) choose(e *expression) int {
	if v.value(e.first) != 0 {
		return v.value(e.second)
	}
	return v.value(e.third)
}

// join returns the value of an expression with a binary operator.
func (v *evaluator) join(e *expression) int {
	// First expressions stand in one another without a limit, so there can't be a call for each.
	var inner []*expression
	for ; e.kind == binary; e = e.first {
		inner = append(inner, e)
	}
	n := v.value(e)
	for _, outer := range slices.Backward(inner) {
		n = v.joinSecond(outer, n)
	}
	return n
}

// joinSecond returns the value of an expression with a binary operator, the first operand of which has the value n.
func (v *evaluator) joinSecond(e *expression, n int) int {
	switch e.operator {
	case "||":
		return truth(n != 0 || v.value(e.second) != 0)
	case "&&":
		return truth(n != 0 && v.value(e.second) != 0)
	}
	return joined(e.operator, n, v.value(e.second))
}
