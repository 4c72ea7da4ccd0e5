package expand

import (
	"strconv"
	"strings"

	"scullion/api"
	"scullion/vars"
)

// value returns the value of a parameter, and whether that is set.
func (x *expander) value(name string) (value string, set bool) {
	switch {
	case name == "#":
		return strconv.Itoa(len(x.Args)), true
	case name == "?":
		return strconv.Itoa(x.Status), true
	case name == "0":
		return "sh", true
	case isArguments(name):
		return strings.Join(x.Args, " "), len(x.Args) > 0
	case strings.Trim(name, "0123456789") == "":
		return x.argument(name)
	}
	v, found := vars.Get(x.Vars, name)
	return v.Value, found
}

// argument returns the argument whose number has some digits, and whether there is one.
func (x *expander) argument(digits string) (value string, set bool) {
	// A number that is too great for an int is greater than that of any argument.
	n, err := strconv.Atoi(digits)
	if err != nil || n < 1 || n > len(x.Args) {
		return "", false
	}
	return x.Args[n-1], true
}

// usable returns the value of a parameter, and whether it is one with the Op of the part.
func (x *expander) usable(part api.Part) (value string, ok bool) {
	value, set := x.value(part.Name)
	return value, set && (value != "" || !strings.Contains(part.Op, ":"))
}

// ifs returns the bytes that separate fields.
func (x *expander) ifs() string {
	if v, found := vars.Get(x.Vars, "IFS"); found {
		return v.Value
	}
	return " \t\n"
}

// isArguments tells whether a parameter stands for all arguments.
func isArguments(name string) bool { return name == "@" || name == "*" }
