package glob

import (
	"iter"
	"strings"

	"scullion/api"
	"scullion/kern"
	"scullion/pattern"
)

// search finds paths in the tree of a process.
type search struct {
	*kern.Proc
}

// paths goes through the paths that exist and consist of a path and what components, of which there is at least one, add to it.
func (s search) paths(path string, components []string) iter.Seq[string] {
	return func(yield func(string) bool) {
		rest := components[1:]
		for name := range s.names(path, components[0]) {
			longer := path + name
			if len(rest) == 0 {
				if s.exists(longer) && !yield(longer) {
					return
				}
				continue
			}
			for found := range s.paths(longer+"/", rest) {
				if !yield(found) {
					return
				}
			}
		}
	}
}

// names goes through what a component adds to a path: itself, or the names in that directory that it matches.
func (s search) names(path, component string) iter.Seq[string] {
	return func(yield func(string) bool) {
		plain := pattern.Plain(component)
		if !pattern.Special(component) {
			yield(plain)
			return
		}
		hidden := strings.HasPrefix(plain, ".")
		for _, name := range s.list(path) {
			shown := hidden || !strings.HasPrefix(name, ".")
			if shown && pattern.Match(component, name) && !yield(name) {
				return
			}
		}
	}
}

// list returns the names in a directory, which is the working directory if path is empty, or none if they can't be read.
func (s search) list(path string) []string {
	if path == "" {
		path = "."
	}
	// With an error there are no names.
	names, _ := s.List(path)
	return names
}

// exists tells whether there is something at a path, if only a link that leads to nothing.
func (s search) exists(path string) bool {
	_, e, err := s.Find(path, false)
	return err == api.OK && e.Kind != api.None
}
