package lexer

import (
	"strings"

	"scullion/api"
)

// noByte stands for the closing byte of a word, which has none.
const noByte = 0

// skipUnit skips the next unit, which is nested in so many units, the innermost of which has the given closing byte. It raises ErrQuote if the unit is invalid.
func (r *reader) skipUnit(nested int, closing byte) {
	if nested > api.MaxDepth {
		panic(api.ErrQuote)
	}
	rest := r.rest()
	switch {
	case rest[0] == '\\':
		r.skip(2)
	case rest[0] == '\'' && closing != '"':
		r.skipQuoted()
	case rest[0] == '"':
		r.skipNest(`"`, '"', nested)
	case strings.HasPrefix(rest, "$("):
		r.skipNest("$(", ')', nested)
	case strings.HasPrefix(rest, "${"):
		r.skipNest("${", '}', nested)
	case rest[0] == '(' && closing == ')':
		r.skipNest("(", ')', nested)
	default:
		r.skip(1)
	}
}

// skipNest skips a unit that is nested in so many units: what opens it, the units in it, and its closing byte.
func (r *reader) skipNest(opening string, closing byte, nested int) {
	r.skip(len(opening))
	for r.next() != closing {
		r.skipUnit(nested+1, closing)
	}
	r.skip(1)
}

// skipQuoted skips a text in single quotes.
func (r *reader) skipQuoted() {
	r.skip(1)
	text, _, _ := strings.Cut(r.rest(), "'")
	// If the text is not closed, this is one byte more than there is.
	r.skip(len(text) + 1)
}

// next returns the next byte, or raises ErrQuote at the end of the script.
func (r *reader) next() byte {
	if r.ended() {
		panic(api.ErrQuote)
	}
	return r.script[r.at]
}

// skip skips n bytes, or raises ErrQuote if the script ends before.
func (r *reader) skip(n int) {
	if n > len(r.rest()) {
		panic(api.ErrQuote)
	}
	r.at += n
}
