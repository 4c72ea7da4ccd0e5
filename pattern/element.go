package pattern

// Kinds of elements.
const (
	itself    = iota // a byte that matches itself
	anyByte          // a `?`
	anyString        // a `*`
	bracket          // a bracket expression
)

// element is an element of a pattern.
type element struct {
	kind  int
	value byte     // the byte that matches itself
	set   *byteSet // those of the bracket expression
}

// matches tells whether an element matches a byte, unless it matches strings.
func (e element) matches(c byte) bool {
	switch e.kind {
	case anyByte:
		return true
	case bracket:
		return e.set[c]
	}
	return e.value == c
}

// elements returns the elements of a pattern.
func elements(p string) []element {
	var l []element
	r := reader{rest: units(p)}
	for len(r.rest) > 0 {
		l = append(l, r.read())
	}
	return l
}

// reader is a pattern that is read from its beginning on.
type reader struct {
	rest     []unit // those that are still to be read
	unclosed bool   // whether a `[` was read that has no closing `]`
}

// read reads the next element.
func (r *reader) read() element {
	if members := r.members(); len(members) > 0 {
		r.rest = r.rest[len("[")+len(members)+len("]"):]
		return element{kind: bracket, set: setOf(members)}
	}
	next := r.rest[0]
	r.rest = r.rest[1:]
	switch {
	case next.is('*'):
		return element{kind: anyString}
	case next.is('?'):
		return element{kind: anyByte}
	}
	return element{kind: itself, value: next.value}
}

// members returns what is before the closing `]` in a bracket expression that comes next, or nothing if none comes next.
func (r *reader) members() []unit {
	// A `]` that could close a later `[` would have closed the one that was read. Without this, many of them would take very long.
	if !r.rest[0].is('[') || r.unclosed {
		return nil
	}
	inside := r.rest[1:]
	first := 0
	if len(inside) > 0 && inside[0].is('!') {
		first = 1
	}
	for i := first + 1; i < len(inside); i++ {
		if inside[i].is(']') {
			return inside[:i]
		}
	}
	r.unclosed = true
	return nil
}
