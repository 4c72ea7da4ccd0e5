package pattern

// escape is the byte before a byte that matches only itself.
const escape = '\\'

// unit is a byte of a pattern, without the backslash that may escape it.
type unit struct {
	value   byte
	escaped bool
}

// is tells whether a unit is a byte that is not escaped.
func (u unit) is(c byte) bool { return u.value == c && !u.escaped }

// units returns the units of a pattern. A backslash that has no byte after it is one.
func units(p string) []unit {
	l := make([]unit, 0, len(p))
	for i := 0; i < len(p); i++ {
		escaped := p[i] == escape && i+1 < len(p)
		if escaped {
			i++
		}
		l = append(l, unit{value: p[i], escaped: escaped})
	}
	return l
}
