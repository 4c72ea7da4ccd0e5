package vars

import (
	"slices"
	"strings"

	"scullion/api"
	"scullion/word"
)

// search returns where the variable with a name is, or would be, and whether it is there.
func search(l []api.Var, name string) (at int, found bool) {
	return slices.BinarySearchFunc(l, name, func(v api.Var, name string) int { return strings.Compare(v.Name, name) })
}

// replace returns the variables with others in place of the one with a name, whether it is there or not.
func replace(l []api.Var, name string, others ...api.Var) []api.Var {
	at, found := search(l, name)
	behind := at
	if found {
		behind++
	}
	return slices.Concat(l[:at], others, l[behind:])
}

// isName tells whether a text is the name of a variable.
func isName(text string) bool {
	// Layer 8 lets nothing else be set by a parameter in braces.
	parts, f := word.Parse("${" + text + "=}")
	return f == api.OK && len(parts) == 1 && parts[0].Name == text
}
