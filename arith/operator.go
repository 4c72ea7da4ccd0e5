package arith

import "scullion/api"

// shiftBits has the bits by which a number can be shifted.
const shiftBits = 63

// changed returns the value of an operator that stands before a number.
func changed(operator string, n int) int {
	switch operator {
	case "-":
		return -n
	case "~":
		return ^n
	case "!":
		return truth(n == 0)
	}
	return n
}

// joined returns the value of an operator that stands between two numbers and needs both of them.
func joined(operator string, a, b int) int {
	switch operator {
	case "+":
		return a + b
	case "-":
		return a - b
	case "*":
		return a * b
	case "/":
		check(b != 0, api.ErrZero)
		return a / b
	case "%":
		check(b != 0, api.ErrZero)
		return a % b
	case "<<":
		return a << (b & shiftBits)
	case ">>":
		return a >> (b & shiftBits)
	case "&":
		return a & b
	case "|":
		return a | b
	case "^":
		return a ^ b
	}
	return truth(compared(operator, a, b))
}

// compared tells whether a comparison of two numbers holds.
func compared(operator string, a, b int) bool {
	switch operator {
	case "<":
		return a < b
	case "<=":
		return a <= b
	case ">":
		return a > b
	case ">=":
		return a >= b
	case "==":
		return a == b
	}
	return a != b
}

// truth returns the number for what is true or false.
func truth(is bool) int {
	if is {
		return 1
	}
	return 0
}
