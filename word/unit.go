package word

import "strings"

// noByte stands for a closing byte where there is none.
const noByte = 0

// nest holds the closing bytes of the units that are not closed yet. It is a list, as the units of any string may be nested in more than there is room for calls.
type nest []byte

// innermost returns the closing byte of the innermost unit.
func (n nest) innermost() byte {
	if len(n) == 0 {
		return noByte
	}
	return n[len(n)-1]
}

// closes tells whether a byte closes the innermost unit.
func (n nest) closes(c byte) bool { return len(n) > 0 && n.innermost() == c }

// scanUnit returns the length of the unit that a string begins with, and in how many units those in it are nested at most, where the unit itself counts as nested in one. It returns 0 and 0 if the unit is not closed.
func scanUnit(s string) (length, nested int) {
	var open nest
	for length < len(s) {
		if open.closes(s[length]) {
			open = open[:len(open)-1]
			length++
		} else {
			nested = max(nested, len(open)+1)
			size, closing := opening(s[length:], open.innermost())
			length += size
			if closing != noByte {
				open = append(open, closing)
			}
		}
		if len(open) == 0 {
			break
		}
	}
	if len(open) > 0 || length > len(s) {
		return 0, 0
	}
	return length, nested
}

// opening returns the length of the unit that a string begins with, within a unit with the given closing byte. If other units may stand in it, that is the length of what is before these, and its closing byte. The length of a unit that is not closed is greater than that of the string.
func opening(s string, within byte) (size int, closing byte) {
	switch {
	case s[0] == '\\':
		return 2, noByte
	case s[0] == '\'' && within != '"':
		text, _, _ := strings.Cut(s[1:], "'")
		return len(text) + 2, noByte
	case s[0] == '"':
		return 1, '"'
	case strings.HasPrefix(s, "$("):
		return 2, ')'
	case strings.HasPrefix(s, "${"):
		return 2, '}'
	case s[0] == '(' && within == ')':
		return 1, ')'
	}
	return 1, noByte
}
