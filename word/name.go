package word

import "strings"

// leadingVariable returns the longest name of a variable that a string begins with, or the empty string.
func leadingVariable(s string) string {
	return leading(s, func(at int, c rune) bool { return isLetter(c) || at > 0 && isDigit(c) })
}

// leadingDigits returns the digits that a string begins with.
func leadingDigits(s string) string {
	return leading(s, func(_ int, c rune) bool { return isDigit(c) })
}

// leading returns the longest beginning of a string in which all characters fit where they are.
func leading(s string, fits func(at int, c rune) bool) string {
	for at, c := range s {
		if !fits(at, c) {
			return s[:at]
		}
	}
	return s
}

// leadingParameter returns the longest name of a parameter that a string begins with, or the empty string.
func leadingParameter(s string) string {
	if s != "" && strings.IndexByte("#?@*", s[0]) >= 0 {
		return s[:1]
	}
	// No string begins with both, so that one of them is empty.
	return leadingVariable(s) + leadingDigits(s)
}

// nameAfterDollar returns the name of a parameter that a string begins with if it stands after a `$` without braces, where of several digits only one counts.
func nameAfterDollar(s string) string {
	name := leadingParameter(s)
	if leadingDigits(name) != "" {
		return name[:1]
	}
	return name
}

// isLetter tells whether the name of a variable may begin with a character.
func isLetter(c rune) bool {
	return 'a' <= c && c <= 'z' || 'A' <= c && c <= 'Z' || c == '_'
}

// isDigit tells whether a character is a decimal digit.
func isDigit(c rune) bool { return '0' <= c && c <= '9' }
