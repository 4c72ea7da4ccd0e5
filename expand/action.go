package expand

import (
	"strconv"
	"strings"

	"scullion/api"
	"scullion/fields"
	"scullion/pattern"
	"scullion/vars"
)

// action expands a parameter that has a certain Op.
type action func(*expander, api.Part)

// actions returns the actions of all Ops.
func actions() map[string]action {
	return map[string]action{
		"":    (*expander).addValue,
		"len": (*expander).addLength,
		"-":   (*expander).valueOrWord,
		":-":  (*expander).valueOrWord,
		"=":   (*expander).valueOrSet,
		":=":  (*expander).valueOrSet,
		"?":   (*expander).valueOrError,
		":?":  (*expander).valueOrError,
		"+":   (*expander).wordOrNothing,
		":+":  (*expander).wordOrNothing,
		"#":   (*expander).removeWord,
		"##":  (*expander).removeWord,
		"%":   (*expander).removeWord,
		"%%":  (*expander).removeWord,
	}
}

// addValue adds the value of a parameter, or the arguments one by one.
func (x *expander) addValue(part api.Part) {
	switch {
	case part.Name == "*" && part.Quoted:
		ifs := x.ifs()
		x.add(part, strings.Join(x.Args, ifs[:min(len(ifs), 1)]))
	case isArguments(part.Name):
		x.addArguments(part)
	default:
		value, _ := x.value(part.Name)
		x.add(part, value)
	}
}

// addArguments adds the arguments, with breaks between them.
func (x *expander) addArguments(part api.Part) {
	for i, argument := range x.Args {
		if i > 0 {
			x.segments = append(x.segments, api.Seg{Kind: api.Break})
		}
		x.add(part, argument)
	}
}

// addLength adds the length of the value of a parameter, or the number of arguments.
func (x *expander) addLength(part api.Part) {
	length := len(x.Args)
	if !isArguments(part.Name) {
		value, _ := x.value(part.Name)
		length = len(value)
	}
	x.add(part, strconv.Itoa(length))
}

// valueOrWord adds the value of a parameter, or its Word.
func (x *expander) valueOrWord(part api.Part) { x.valueOr(part, (*expander).keep) }

// valueOrSet adds the value of a parameter, or sets it to its Word.
func (x *expander) valueOrSet(part api.Part) { x.valueOr(part, (*expander).set) }

// valueOr adds the value of a parameter, or lets its Word be used.
func (x *expander) valueOr(part api.Part, use func(*expander, word)) {
	value, ok := x.usable(part)
	if ok {
		x.add(part, value)
	} else {
		x.enter(part, value, use)
	}
}

// valueOrError adds the value of a parameter, or raises an error.
func (x *expander) valueOrError(part api.Part) {
	value, ok := x.usable(part)
	check(ok, api.ErrUnset)
	x.add(part, value)
}

// wordOrNothing adds the Word of a parameter if that has a value, or an empty text.
func (x *expander) wordOrNothing(part api.Part) {
	value, ok := x.usable(part)
	if ok {
		x.enter(part, value, (*expander).keep)
	} else {
		x.add(part, "")
	}
}

// removeWord adds the value of a parameter, from which its Word is removed.
func (x *expander) removeWord(part api.Part) {
	value, _ := x.value(part.Name)
	x.enter(part, value, (*expander).remove)
}

// enter lets the Word of a parameter, which has a value, be expanded next, and used then.
func (x *expander) enter(owner api.Part, value string, use func(*expander, word)) {
	x.words = append(x.words, word{rest: owner.Word, start: len(x.segments), use: use, owner: owner, value: value})
}

// keep keeps the segments of a Word.
func (x *expander) keep(w word) {
	if w.owner.Quoted && len(x.segments) == w.start {
		x.add(w.owner, "")
	}
}

// set sets the owner of a Word to its text.
func (x *expander) set(w word) {
	text := x.takeBack(w, false)
	variables, f := vars.Set(x.Vars, w.owner.Name, text)
	check(f == api.OK, f)
	x.Vars = variables
	x.add(w.owner, text)
}

// remove removes what a Word matches from the value of its owner.
func (x *expander) remove(w word) {
	matched := x.takeBack(w, true)
	end := strings.HasPrefix(w.owner.Op, "%")
	most := len(w.owner.Op) > 1
	x.add(w.owner, pattern.Remove(w.value, matched, end, most))
}

// takeBack takes the segments of a Word back, and returns them as one text, or as one pattern.
func (x *expander) takeBack(w word, asPattern bool) string {
	text := fields.Joined(x.segments[w.start:], asPattern)
	x.segments = x.segments[:w.start]
	return text
}
