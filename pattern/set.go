package pattern

// byteSet tells of each byte whether it is in a bracket expression.
type byteSet [256]bool

// setOf returns the bytes that are in the bracket expression of some units.
func setOf(l []unit) *byteSet {
	s := &byteSet{}
	not := l[0].is('!')
	if not {
		l = l[1:]
	}
	for len(l) > 0 {
		size := 1
		if len(l) >= 3 && l[1].is('-') {
			size = 3
		}
		s.include(l[0].value, l[size-1].value)
		l = l[size:]
	}
	if not {
		s.invert()
	}
	return s
}

// include includes all bytes from one to another.
func (s *byteSet) include(first, last byte) {
	for c := int(first); c <= int(last); c++ {
		s[c] = true
	}
}

// invert includes the bytes that are not included, and no others.
func (s *byteSet) invert() {
	for c := range len(s) {
		s[c] = !s[c]
	}
}
