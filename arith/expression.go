package arith

// The kinds of expressions.
const (
	literal    = iota // a number
	variable          // the variable with a name
	assignment        // an operator, which sets the variable with a name, and the first expression
	prefixed          // an operator, and the first expression behind it
	binary            // an operator between the first and the second expression
	choice            // the second or the third expression, by the first one
)

// expression is a tree: an expression, and those of which it consists.
type expression struct {
	kind     int
	number   int
	name     string
	operator string

	first, second, third *expression
}
