package fields

import (
	"scullion/api"
	"scullion/pattern"
)

// splitter puts segments together to fields.
type splitter struct {
	ifs    [256]bool // the bytes that separate fields
	fields []string  // those that ended
	field  []byte    // the current one
	begun  bool      // whether the current one has begun
	spaced bool      // whether a blank ended a field, and a separator behind it belongs to that end
}

// newSplitter returns a splitter without segments.
func newSplitter(ifs string) *splitter {
	s := &splitter{}
	for i := range len(ifs) {
		s.ifs[ifs[i]] = true
	}
	return s
}

// take adds the next segment.
func (s *splitter) take(g api.Seg) {
	switch g.Kind {
	case api.Plain:
		if g.Text != "" {
			s.add(doubled(g.Text))
		}
	case api.Literal:
		s.add(pattern.Escape(g.Text))
	case api.Break:
		s.end()
		s.spaced = false
	case api.Split:
		for i := range len(g.Text) {
			s.split(g.Text[i : i+1])
		}
	}
}

// add adds a text to the current field.
func (s *splitter) add(text string) {
	s.field = append(s.field, text...)
	s.begun = true
}

// end ends the current field if it has begun.
func (s *splitter) end() {
	if s.begun {
		s.fields = append(s.fields, string(s.field))
	}
	s.field, s.begun = s.field[:0], false
}

// split adds a byte of a text that is to be split.
func (s *splitter) split(text string) {
	c := text[0]
	blank := c == ' ' || c == '\t' || c == '\n'
	switch {
	case !s.ifs[c]:
		s.add(doubled(text))
	case !s.begun && !blank && !s.spaced:
		// Nothing is between two separators, and that is a field too.
		s.begun = true
		fallthrough
	case s.begun:
		s.end()
		s.spaced = blank
	case !blank:
		s.spaced = false
	}
}
