package word

import (
	"strings"

	"scullion/api"
)

// noByte stands for a closing byte where there is none.
const noByte = 0

// unitLength returns the length of the unit that a string begins with, or 0 if it is invalid: if it, or one in it, is not closed or nested too deeply.
func unitLength(s string) int {
	// What stands in a unit is read only if the whole unit is valid, so that it doesn't matter that the units in it count from one on when they are taken themselves.
	return lengthWithin(s, 1, noByte)
}

// lengthWithin returns the length of the unit that a string begins with, or 0 if it is invalid. The unit is nested in so many units, the innermost of which has the given closing byte.
func lengthWithin(s string, nested int, within byte) int {
	if nested > api.MaxDepth {
		return 0
	}
	length, closing := opening(s, within)
	if closing == noByte {
		if length > len(s) {
			return 0
		}
		return length
	}
	for length < len(s) && s[length] != closing {
		inner := lengthWithin(s[length:], nested+1, closing)
		if inner == 0 {
			return 0
		}
		length += inner
	}
	if length == len(s) {
		return 0
	}
	return length + 1
}

// opening returns the length of the unit that a string begins with, within a unit with the given closing byte. If other units may stand in it, that is the length of what is before these, and its closing byte. The length of a unit that is not closed is greater than that of the string.
func opening(s string, within byte) (size int, closing byte) {
	switch {
	case s[0] == '\\':
		return 2, noByte
	case s[0] == '\'' && within != '"':
		text, _, _ := strings.Cut(s[1:], "'")
		return len(text) + 2, noByte
	case s[0] == '"':
		return 1, '"'
	case strings.HasPrefix(s, "$("):
		return 2, ')'
	case strings.HasPrefix(s, "${"):
		return 2, '}'
	case s[0] == '(' && within == ')':
		return 1, ')'
	}
	return 1, noByte
}
