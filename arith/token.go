package arith

import "strings"

// blanks are the bytes that may stand around tokens.
const blanks = " \t\n"

// cutToken returns the token at the beginning of a text, and the text behind it. The token is empty if the text consists of blanks only.
func cutToken(s string) (token, rest string) {
	s = strings.TrimLeft(s, blanks)
	length := tokenLength(s)
	return s[:length], s[length:]
}

// tokenLength returns the length of the token with which a text begins. A byte that may be in no token counts as one, which is valid nowhere.
func tokenLength(s string) int {
	if length := wordLength(s); length > 0 {
		return length
	}
	if len(s) >= 2 && isLongOperator(s[:2]) {
		return 2
	}
	return min(len(s), 1)
}

// wordLength returns the length of the longest sequence of letters, digits and `_` with which a text begins.
func wordLength(s string) int {
	length := 0
	for length < len(s) && (beginsName(s[length]) || '0' <= s[length] && s[length] <= '9') {
		length++
	}
	return length
}

// beginsName tells whether a name may begin with a byte.
func beginsName(c byte) bool {
	return c == '_' || 'A' <= c && c <= 'Z' || 'a' <= c && c <= 'z'
}

// isName tells whether a token is a name.
func isName(token string) bool { return token != "" && beginsName(token[0]) }

// isLongOperator tells whether two bytes are one operator.
func isLongOperator(s string) bool {
	switch s {
	case "<<", ">>", "<=", ">=", "==", "!=", "&&", "||":
		return true
	}
	return s != "=" && assigns(s)
}

// assigns tells whether a token is an operator that sets the variable before it.
func assigns(token string) bool {
	switch token {
	case "=", "+=", "-=", "*=", "/=", "%=":
		return true
	}
	return false
}

// isPrefix tells whether a token is an operator that may stand before an operand.
func isPrefix(token string) bool {
	switch token {
	case "-", "+", "~", "!":
		return true
	}
	return false
}
