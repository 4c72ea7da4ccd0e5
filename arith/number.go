package arith

import (
	"strconv"
	"strings"
)

// literalValue returns the value of a number literal, and whether the text is one.
func literalValue(s string) (int, bool) {
	digits, base := s, 10
	switch {
	case strings.HasPrefix(s, "0x"), strings.HasPrefix(s, "0X"):
		digits, base = s[2:], 16
	case strings.HasPrefix(s, "0") && s != "0":
		digits, base = s[1:], 8
	}
	// A literal has no sign, so its 63 bits are all that a number has but its sign.
	n, err := strconv.ParseUint(digits, base, 63)
	if err != nil {
		return 0, false
	}
	return int(n), true
}

// numericValue returns the number that the Value of a variable stands for, and whether there is one.
func numericValue(value string) (int, bool) {
	if value == "" {
		return 0, true
	}
	digits, negative := strings.CutPrefix(value, "-")
	n, ok := literalValue(digits)
	if negative {
		n = -n
	}
	return n, ok
}
