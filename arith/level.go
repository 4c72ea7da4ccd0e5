package arith

// The levels of the grammar: those of the binary operators, and at last the one of their operands.
const (
	noLevel = iota
	orLevel
	andLevel
	bitOrLevel
	bitXorLevel
	bitAndLevel
	equalLevel
	lessLevel
	shiftLevel
	sumLevel
	productLevel
	operandLevel
)

// levelOf returns the level of a binary operator, or noLevel for any other token.
func levelOf(token string) int {
	switch token {
	case "||":
		return orLevel
	case "&&":
		return andLevel
	case "|":
		return bitOrLevel
	case "^":
		return bitXorLevel
	case "&":
		return bitAndLevel
	case "==", "!=":
		return equalLevel
	case "<", "<=", ">", ">=":
		return lessLevel
	case "<<", ">>":
		return shiftLevel
	case "+", "-":
		return sumLevel
	case "*", "/", "%":
		return productLevel
	}
	return noLevel
}
