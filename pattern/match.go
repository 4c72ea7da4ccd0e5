package pattern

import "iter"

// prefixes yields the length of each prefix of a string that elements match, the shortest one first.
func prefixes(l []element, s string) iter.Seq[int] {
	return func(yield func(int) bool) {
		m := matcher{elements: l, text: s}
		for more := true; more; more = m.backtrack() {
			m.advance()
			if m.next == len(l) && !yield(m.at) {
				return
			}
		}
	}
}

// matcher matches elements against the prefixes of a text. It has two marks, to which it goes back; no others are needed: what the elements before the last star match may be as short as possible, since that star matches the more.
type matcher struct {
	elements []element
	text     string
	next     int // the index of the element that comes next
	at       int // the position in the text of what it is to match

	nextMark int // the index of the element behind the last star, or 0 if there was no star
	atMark   int // the position from which on the elements behind that star were tried
}

// advance goes on as long as the elements match.
func (m *matcher) advance() {
	for ; m.next < len(m.elements); m.next++ {
		element := m.elements[m.next]
		switch {
		case element.kind == anyString:
			m.nextMark, m.atMark = m.next+1, m.at
		case m.at < len(m.text) && element.matches(m.text[m.at]):
			m.at++
		default:
			return
		}
	}
}

// backtrack lets the last star match one byte more, and tells whether the elements behind it may match then.
func (m *matcher) backtrack() bool {
	// If the text ended too early for them, it does so from any later position.
	if m.nextMark == 0 || m.at == len(m.text) {
		return false
	}
	m.atMark++
	m.next, m.at = m.nextMark, m.atMark
	return true
}
