package word

import (
	"strings"

	"scullion/api"
)

// Print returns a word with the given parts.
func Print(l []api.Part) string {
	p := printer{lists: []unprinted{{parts: l}}}
	for len(p.lists) > 0 {
		p.printOn()
	}
	return p.out.String()
}

// unprinted is a list of parts that are still to be printed, and what stands behind them.
type unprinted struct {
	parts  []api.Part
	behind string
}

// printer prints parts. It has a list for the Words that it is in, since Words that nobody parsed may be nested in more than there is room for calls.
type printer struct {
	out   strings.Builder
	lists []unprinted // each one the Word of a part of the one before it
}

// printOn prints the next part of the innermost list, or ends that list.
func (p *printer) printOn() {
	inner := &p.lists[len(p.lists)-1]
	if len(inner.parts) == 0 {
		p.out.WriteString(inner.behind)
		p.lists = p.lists[:len(p.lists)-1]
		return
	}
	part := inner.parts[0]
	inner.parts = inner.parts[1:]
	switch {
	case part.Kind == api.Text && part.Quoted:
		p.write("'", strings.ReplaceAll(part.Text, "'", `'\''`), "'")
	case part.Kind == api.Text:
		p.write("", part.Text, "")
	case part.Quoted:
		p.printExpansion(part, `"`)
	default:
		p.printExpansion(part, "")
	}
}

// printExpansion prints a part that is no Text, in the given quotes. The Word of a parameter becomes the next list.
func (p *printer) printExpansion(part api.Part, quotes string) {
	switch {
	case part.Kind == api.Command:
		p.write(quotes+"$(", part.Text, ")"+quotes)
	case part.Kind == api.Arith:
		p.write(quotes+"$((", part.Text, "))"+quotes)
	case part.Kind == api.Param && part.Op == "len":
		p.write(quotes+"${#", part.Name, "}"+quotes)
	case part.Kind == api.Param:
		p.write(quotes+"${", part.Name, part.Op)
		p.lists = append(p.lists, unprinted{part.Word, "}" + quotes})
	default:
		p.write(quotes, "", quotes)
	}
}

// write writes what stands before a text, the text, and what stands behind it.
func (p *printer) write(before, text, behind string) {
	p.out.WriteString(before)
	p.out.WriteString(text)
	p.out.WriteString(behind)
}
