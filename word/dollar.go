package word

import (
	"strings"

	"scullion/api"
)

// operators are the Ops that may follow the name of a parameter in braces, each one before those that it begins with.
var operators = [...]string{":-", ":=", ":?", ":+", "%%", "##", "-", "=", "?", "+", "%", "#"}

// readDollar reads what the `$` at the beginning of a string begins, and returns its length.
func (r *reader) readDollar(s string, quoted bool) (int, api.Errno) {
	if strings.HasPrefix(s, "$(") || strings.HasPrefix(s, "${") {
		length := unitLength(s)
		if length == 0 {
			return 0, api.ErrWord
		}
		if s[1] == '{' {
			return length, r.readBraces(s[2:length-1], quoted)
		}
		r.readParentheses(s[:length], quoted)
		return length, api.OK
	}
	name := nameAfterDollar(s[1:])
	if name == "" {
		r.addText("$", quoted)
	} else {
		r.add(api.Part{Kind: api.Param, Quoted: quoted, Name: name})
	}
	return 1 + len(name), api.OK
}

// readParentheses reads a unit that begins with `$(`.
func (r *reader) readParentheses(unit string, quoted bool) {
	if len(unit) >= 5 && strings.HasPrefix(unit, "$((") && strings.HasSuffix(unit, "))") {
		r.add(api.Part{Kind: api.Arith, Quoted: quoted, Text: unit[3 : len(unit)-2]})
	} else {
		r.add(api.Part{Kind: api.Command, Quoted: quoted, Text: unit[2 : len(unit)-1]})
	}
}

// readBraces reads what stands between the braces of a parameter.
func (r *reader) readBraces(content string, quoted bool) api.Errno {
	part := api.Part{Kind: api.Param, Quoted: quoted}
	if name, ok := strings.CutPrefix(content, "#"); ok && name != "" && name == leadingParameter(name) {
		part.Name, part.Op = name, "len"
		r.add(part)
		return api.OK
	}
	part.Name = leadingParameter(content)
	if part.Name == "" {
		return api.ErrWord
	}
	if rest := content[len(part.Name):]; rest != "" {
		part.Op = leadingOperator(rest)
		if part.Op == "" || assigns(part.Op) && leadingVariable(part.Name) == "" {
			return api.ErrWord
		}
		word, f := parseAt(r.depth+1, rest[len(part.Op):], quoted)
		if f != api.OK {
			return f
		}
		if hasCommand(word) {
			return api.ErrWord
		}
		part.Word = word
	}
	r.add(part)
	return api.OK
}

// leadingOperator returns the longest Op that a string begins with, or the empty string.
func leadingOperator(s string) string {
	for _, operator := range operators {
		if strings.HasPrefix(s, operator) {
			return operator
		}
	}
	return ""
}

// assigns tells whether an Op sets its parameter, which must be a variable then.
func assigns(operator string) bool { return operator == "=" || operator == ":=" }

// hasCommand tells whether a Command is among parts. One in the Word of a part was refused with that Word.
func hasCommand(parts []api.Part) bool {
	for _, part := range parts {
		if part.Kind == api.Command {
			return true
		}
	}
	return false
}
