package expand

import (
	"slices"
	"strconv"
	"strings"

	"scullion/api"
	"scullion/arith"
)

// expander expands parts in a shell, which they may change. Each method that expands something adds its segments, or raises an error. It has a list for the Words that it is in, since Words that nobody parsed may be nested in more than there is room for calls.
type expander struct {
	api.Shell
	outs     []string  // the outputs that no command was given yet
	segments []api.Seg // those of the parts so far
	words    []word    // each one the Word of a parameter in the one before it
	actions  map[string]action
}

// word is a list of parts that is being expanded.
type word struct {
	rest  []api.Part            // those that are still to be expanded
	start int                   // the index of the first segment of the others
	use   func(*expander, word) // what is done with the segments of all
	owner api.Part              // the parameter whose Word it is
	value string                // the value that the owner had before
}

func newExpander(s api.Shell, outs []string) *expander {
	return &expander{Shell: copied(s), outs: outs, actions: actions()}
}

// copied returns a shell that shares no memory with another one.
func copied(s api.Shell) api.Shell {
	s.Vars, s.Args = slices.Clone(s.Vars), slices.Clone(s.Args)
	return s
}

// expand expands some parts, or returns the first error.
func (x *expander) expand(l []api.Part) (f api.Errno) {
	defer func() {
		if raised := recover(); raised != nil {
			// Anything but an error of this program is a fault of it, and panics on.
			f = raised.(api.Errno)
		}
	}()
	x.words = []word{{rest: l, use: (*expander).keep}}
	for len(x.words) > 0 {
		x.expandOn()
	}
	return api.OK
}

// check raises an error unless ok is true.
func check(ok bool, f api.Errno) {
	if !ok {
		panic(f)
	}
}

// expandOn expands the next part of the innermost Word, or ends that Word.
func (x *expander) expandOn() {
	last := len(x.words) - 1
	inner := x.words[last]
	if len(inner.rest) == 0 {
		x.words = x.words[:last]
		inner.use(x, inner)
		return
	}
	x.words[last].rest = inner.rest[1:]
	x.expandPart(inner.rest[0])
}

// expandPart expands a part, but for its Word, if that is needed, which is expanded next.
func (x *expander) expandPart(part api.Part) {
	switch part.Kind {
	case api.Text:
		x.addText(part)
	case api.Param:
		// An Op that no word has means nothing.
		if act, ok := x.actions[part.Op]; ok {
			act(x, part)
		}
	case api.Command:
		x.add(part, strings.TrimRight(x.output(), "\n"))
	case api.Arith:
		n, variables, f := arith.Eval(part.Text, x.Vars)
		check(f == api.OK, f)
		x.Vars = variables
		x.add(part, strconv.Itoa(n))
	}
}

// addText adds the segment of a part that is text of the script.
func (x *expander) addText(part api.Part) {
	kind := api.Plain
	if part.Quoted {
		kind = api.Literal
	}
	x.segments = append(x.segments, api.Seg{Kind: kind, Text: part.Text})
}

// add adds the segment of a part that stands for a text.
func (x *expander) add(part api.Part, text string) {
	kind := api.Split
	if part.Quoted {
		kind = api.Literal
	}
	x.segments = append(x.segments, api.Seg{Kind: kind, Text: text})
}

// output returns the output of the next command.
func (x *expander) output() string {
	// There are outputs for the commands of the whole only, not for those in the Words of its parts.
	if len(x.words) > 1 || len(x.outs) == 0 {
		return ""
	}
	out := x.outs[0]
	x.outs = x.outs[1:]
	return out
}
