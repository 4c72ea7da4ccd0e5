package word

import (
	"strings"
	"testing"

	"scullion/api"
)

// nested returns a text within so many units of a kind.
func nested(opening, text, closing string, depth int) string {
	return strings.Repeat(opening, depth) + text + strings.Repeat(closing, depth)
}

// nestedWords returns a part whose Words are nested so often, with a last Word.
func nestedWords(depth int, all func(api.Part) api.Part, last ...api.Part) list {
	parts := list(last)
	for range depth {
		parts = list{all(op("a", "-", parts...))}
	}
	return parts
}

func asItIs(p api.Part) api.Part { return p }

// openUnits returns how many units are nested in one another at most in a string whose units are all closed. It keeps a list of the closing bytes of those that are open.
func openUnits(s string) int {
	most, open := 0, []byte{noByte}
	for at := 0; at < len(s); {
		within := open[len(open)-1]
		if within != noByte && s[at] == within {
			open = open[:len(open)-1]
			at++
			continue
		}
		most = max(most, len(open))
		switch rest := s[at:]; {
		case rest[0] == '\\':
			at += 2
		case rest[0] == '\'' && within != '"':
			at += strings.Index(rest[1:], "'") + 2
		case rest[0] == '"':
			open = append(open, '"')
			at++
		case strings.HasPrefix(rest, "$("):
			open = append(open, ')')
			at += 2
		case strings.HasPrefix(rest, "${"):
			open = append(open, '}')
			at += 2
		case rest[0] == '(' && within == ')':
			open = append(open, ')')
			at++
		default:
			at++
		}
	}
	return most
}

func TestOpenUnits(t *testing.T) {
	for s, want := range map[string]int{"": 0, "a": 1, "'a'": 1, `\a`: 1, "(a)": 1, `""`: 1, `"a"`: 2, `"'"`: 2, "${}": 1, "${a}": 2, "$()": 1, "$(a)": 2, "$((a))": 3, `$("(a)")`: 3, `"${a-"b"}c"`: 4, "${a-${b}}c": 3} {
		if got := openUnits(s); got != want {
			t.Errorf("%q: %d, want %d", s, got, want)
		}
	}
}

// TestDepthOfWords nests Words in one another, each of which is in one more unit, up to the limit of units and beyond it.
func TestDepthOfWords(t *testing.T) {
	for _, c := range []struct {
		s     string
		parts list
		units int // of the string, in one another
	}{
		// The name of the parameter that an empty Word belongs to is a unit as well.
		{"", nil, 0},
		{"b", list{text("b")}, 1},
		{"b'c'", list{text("b"), qtext("c")}, 1},
		{`\b`, list{qtext("b")}, 1},
		{`""`, list{qtext("")}, 1},
		{`"b"`, list{qtext("b")}, 2},
		{`"'"`, list{qtext("'")}, 2},
		{"$b", list{param("b")}, 1},
		{`"$b"`, list{quoted(param("b"))}, 2},
		{"${b}", list{param("b")}, 2},
		{"${#b}", list{op("b", "len")}, 2},
		{`"${b}"`, list{quoted(param("b"))}, 3},
		{"$(())", list{arith("")}, 2},
		{"$((1))", list{arith("1")}, 3},
		{`"$((1))"`, list{quoted(arith("1"))}, 4},
	} {
		for n := range 40 {
			if n > 30-c.units || n > 29 {
				checkRefused(t, nested("${a-", c.s, "}", n), api.ErrWord)
				checkRefused(t, "$b"+nested("${a-", c.s, "}", n)+"c", api.ErrWord)
			} else {
				checkParts(t, nested("${a-", c.s, "}", n), nestedWords(n, asItIs, c.parts...)...)
			}
		}
	}
}

// TestDepthOfQuotedWords nests Words in double quotes, which are units as the braces are.
func TestDepthOfQuotedWords(t *testing.T) {
	for n := 1; n < 40; n++ {
		once, each := `"`+nested("${a-", "b", "}", n)+`"`, nested(`"${a-`, "b", `}"`, n)
		if n > 28 {
			checkRefused(t, once, api.ErrWord)
			checkRefused(t, "${c-"+once+"}", api.ErrWord)
			checkRefused(t, `"`+nested("${a-", "", "}", n)+`"`, api.ErrWord)
		} else {
			checkParts(t, once, nestedWords(n, quoted, qtext("b"))...)
			checkParts(t, `"`+nested("${a-", "", "}", n)+`"`, nestedWords(n, quoted)...)
		}
		if n > 14 {
			checkRefused(t, each, api.ErrWord)
		} else {
			checkParts(t, each, nestedWords(n, quoted, qtext("b"))...)
		}
		// What is in a Word's own quotes is in one unit more.
		if n > 27 {
			checkRefused(t, `"`+nested("${a-", `"b"`, "}", n)+`"`, api.ErrWord)
		} else {
			checkParts(t, `"`+nested("${a-", `"b"`, "}", n)+`"`, nestedWords(n, quoted, qtext("b"))...)
		}
	}
}

// TestWordsSideBySide has many Words, which are as deep as the first of them.
func TestWordsSideBySide(t *testing.T) {
	row, want := "", list{}
	for range 50 {
		row += "${b-c}"
		want = append(want, op("b", "-", text("c")))
	}
	checkParts(t, row, want...)
	checkParts(t, nested("${a-", row, "}", 28), nestedWords(28, asItIs, want...)...)
	checkRefused(t, nested("${a-", row, "}", 29), api.ErrWord)
	// A unit that is nested too deeply may stand behind others that are not.
	checkRefused(t, row+nested("${a-", "b", "}", 30), api.ErrWord)
	checkRefused(t, "${a-"+row+nested("${a-", "b", "}", 29)+"}", api.ErrWord)
	checkRefused(t, `"`+row+nested("${a-", "b", "}", 29)+row+`"`, api.ErrWord)
}

// checkAt fails unless a string at a depth has an error, and no parts beside it. The depth of a string that Parse is given is 1.
func checkAt(t *testing.T, depth int, s string, want api.Errno) {
	t.Helper()
	if got, f := parseAt(depth, s, false); f != want || len(got) != 0 {
		t.Errorf("H1: %.100q at the depth %d: %s and %d, want the error %d alone", s, depth, told(got), f, want)
	}
}

// TestWordsTooDeep has Words beyond the depth 30. Parse never comes to one, since its braces are invalid units before; so the reading of a string at a depth is tested by itself.
func TestWordsTooDeep(t *testing.T) {
	for depth := 1; depth <= 30; depth++ {
		s := nested("${a-", "b", "}", 30-depth)
		if got, f := parseAt(depth, s, false); f != api.OK || depth < 30 && !same(got, nestedWords(30-depth, asItIs, text("b"))) {
			t.Errorf("H1: %.100q at the depth %d: %s and %d", s, depth, told(got), f)
		}
		if depth > 1 {
			checkAt(t, depth, nested("${a-", "b", "}", 31-depth), api.ErrLong)
			checkAt(t, depth, nested("${a-", "", "}", 31-depth), api.ErrLong)
		}
	}
	for _, s := range []string{"", "b", "'b'", "${b}", "${}", "$(b)"} {
		checkAt(t, 30, "${a-"+s+"}", api.ErrLong)
		checkAt(t, 30, `"${a-`+s+`}"`, api.ErrLong)
	}
}

// TestLeftmostError has two errors in one string, one of which is a Word that is too deep.
func TestLeftmostError(t *testing.T) {
	const depth = 20
	long := nested("${a-", "b", "}", 11)
	for _, bad := range []string{"${}", "${a:}", "${1=b}", "${a-$(b)}", "${a-${}}"} {
		checkAt(t, depth, bad+long, api.ErrWord)
		checkAt(t, depth, long+bad, api.ErrLong)
		checkAt(t, depth, `"`+bad+long+`"`, api.ErrWord)
		checkAt(t, depth, `"`+long+bad+`"`, api.ErrLong)
		checkAt(t, depth, `"`+long+`"`+bad, api.ErrLong)
		checkAt(t, depth, "${c-"+bad+long+"}", api.ErrWord)
		checkAt(t, depth, "${c-"+long+bad+"}", api.ErrLong)
	}
	for _, bad := range []string{`\`, "'", `"`, "$(", "${", "${a", nested("${a-", "b", "}", 30), `"` + nested("${a-", "b", "}", 29) + `"`} {
		checkAt(t, depth, long+bad, api.ErrLong)
		if bad != `\` {
			checkAt(t, depth, bad+long, api.ErrWord)
		}
	}
	// A unit that is invalid begins before what is in it.
	for _, bad := range []string{`"`, "$(", "${", "${c", "${c-", `"${c-`, `"$(`} {
		checkAt(t, depth, bad+long, api.ErrWord)
	}
	for _, bad := range []string{`\`, "'", "$(", "${", "${a", nested("${a-", "b", "}", 29) + "}"} {
		checkAt(t, depth, "${c-"+long+bad, api.ErrWord)
	}
	for _, bad := range []string{`\`, "$(", "${", "${a", nested("${a-", "b", "}", 29) + `"`} {
		checkAt(t, depth, `"`+long+bad, api.ErrWord)
	}
}

// TestErrorsInBraces has the order of the errors of a parameter in braces.
func TestErrorsInBraces(t *testing.T) {
	const depth = 20
	long := nested("${a-", "b", "}", 11)
	for _, s := range []string{"${-" + long + "}", "${" + long + "}", "${c:" + long + "}", "${c " + long + "}", "${1=" + long + "}", "${#:=" + long + "}", "${#c" + long + "}"} {
		checkAt(t, depth, s, api.ErrWord)
	}
	// A Command among the parts of a Word is an error behind all others of that Word.
	for _, s := range []string{"${c-$(d)" + long + "}", "${c-" + long + "$(d)}", `${c-"$(d)` + long + `"}`, `"${c=$(d)` + long + `}"`, "${c-${d-$(e)" + long + "}}", "${c-$(d)${e-" + long + "}}"} {
		checkAt(t, depth, s, api.ErrLong)
	}
	// In another Word to the left it is one before them.
	for _, s := range []string{"${c-${d-$(e)}" + long + "}", "${c-$(d)${e-$(f)}" + long + "}", "${c-$(d)}" + long} {
		checkAt(t, depth, s, api.ErrWord)
	}
}

// TestDepthOfUnits nests units of one kind, by themselves and in other units, where as many may be in one another as in a word of layer 7.
func TestDepthOfUnits(t *testing.T) {
	for _, unit := range [][2]string{{"$(", ")"}, {"(", ")"}, {"${", "}"}, {`$("`, `")`}, {`"${`, `}"`}} {
		units := strings.Count(unit[0], "(") + strings.Count(unit[0], "{") + strings.Count(unit[0], `"`)
		for n := range 40 {
			for _, inner := range []string{"", "a", "'", " ", `\a`, "'a'"} {
				within := unit[0][len(unit[0])-1]
				if inner == "'" && (within != '"' || n == 0) {
					continue
				}
				content := nested(unit[0], inner, unit[1], n)
				deepest := 1 + units*n
				if inner != "" {
					deepest++
				}
				checkCommand(t, "$( "+content+" )", deepest, command(" "+content+" "))
				checkCommand(t, `"$( `+content+` )"`, deepest+1, quoted(command(" "+content+" ")))
				checkCommand(t, "${a-$(( "+content+" ))}", deepest+2, op("a", "-", arith(" "+content+" ")))
				checkCommand(t, `${a-"$(( `+content+` ))"}`, deepest+3, op("a", "-", quoted(arith(" "+content+" "))))
				checkCommand(t, `"${a-"$(( `+content+` ))"}"`, deepest+4, quoted(op("a", "-", quoted(arith(" "+content+" ")))))
			}
		}
	}
	checkParts(t, nested("$(", "", ")", 30), command(nested("$(", "", ")", 29)))
	checkRefused(t, nested("$(", "", ")", 31), api.ErrWord)
	checkParts(t, "$("+nested("(", "1", ")", 28)+")", arith(nested("(", "1", ")", 27)))
	checkRefused(t, "$("+nested("(", "1", ")", 29)+")", api.ErrWord)
	checkParts(t, "${a-$("+nested("(", "1", ")", 27)+")}", op("a", "-", arith(nested("(", "1", ")", 26))))
	checkRefused(t, "${a-$("+nested("(", "1", ")", 28)+")}", api.ErrWord)
	checkParts(t, `"`+nested("$(", "a", ")", 28)+`"`, quoted(command(nested("$(", "a", ")", 27))))
	checkRefused(t, `"`+nested("$(", "a", ")", 29)+`"`, api.ErrWord)
}

// checkCommand fails unless a string with so many units in one another has the given part alone, also behind others, or is refused if these units are too many.
func checkCommand(t *testing.T, s string, units int, want api.Part) {
	t.Helper()
	for before, parts := range map[string]list{"": nil, "a": {text("a")}, "$b": {param("b")}} {
		if units > 30 {
			checkRefused(t, before+s, api.ErrWord)
		} else {
			checkParts(t, before+s, append(parts, want)...)
		}
	}
}

// TestMixedUnits nests units of several kinds in one another, near the limit, where the model takes the units that layer 7 takes.
func TestMixedUnits(t *testing.T) {
	valid := [2]int{}
	for seed := range 4000 {
		next := numbers(seed)
		before, behind := "", ""
		for open := 20 + next(14); open > 0; open-- {
			within := before == "" || strings.HasSuffix(before, "-")
			switch kind := next(4); {
			case kind == 0 && within:
				before, behind = before+`"`, `"`+behind
			case kind == 1:
				before, behind = before+"'b'${a-", "}"+behind
			default:
				before, behind = before+"${a-", "}"+behind
			}
		}
		s := before + []string{"", "b", "'b'", `\b`, "$b", "${b}", "$((1))"}[next(7)] + behind
		if checkModel(t, s) != (openUnits(s) <= 30) {
			t.Errorf("H1: %q with %d units", s, openUnits(s))
		} else if openUnits(s) <= 30 {
			valid[1]++
		} else {
			valid[0]++
		}
	}
	if valid[0] < 1000 || valid[1] < 1000 {
		t.Errorf("H1: %d strings are invalid, and %d valid", valid[0], valid[1])
	}
}

// TestManyOpenings has more openings than a stack would hold if each one were followed.
func TestManyOpenings(t *testing.T) {
	const n = 1000000
	for _, opening := range []string{"$(", "${", "$((", "${a-", `"${a-`, `"$(`, `$("`, `"'${`} {
		checkRefused(t, strings.Repeat(opening, n), api.ErrWord)
	}
	checkRefused(t, nested("${a-", "", "}", n), api.ErrWord)
	checkRefused(t, nested(`"${a-`, "", `}"`, n), api.ErrWord)
	checkRefused(t, nested("$(", "", ")", n), api.ErrWord)
	checkRefused(t, nested("${", "", "}", n), api.ErrWord)
	checkRefused(t, "${a-"+nested("(", "", ")", n), api.ErrWord)
}

// TestLongStrings has strings that are longer than a script may be.
func TestLongStrings(t *testing.T) {
	const n = 1000000
	long := strings.Repeat("a", n)
	checkParts(t, long, text(long))
	checkParts(t, "'"+long+"'", qtext(long))
	checkParts(t, `"`+long+`"`, qtext(long))
	checkParts(t, strings.Repeat(`\a`, n), qtext(long))
	checkParts(t, strings.Repeat("'a'", n), qtext(long))
	checkParts(t, "$"+long, param(long))
	checkParts(t, "${"+long+"}", param(long))
	checkParts(t, "${#"+long+"}", op(long, "len"))
	checkParts(t, "$("+long+")", command(long))
	checkParts(t, "${b-"+long+"}", op("b", "-", text(long)))
	checkParts(t, nested("${a-", long, "}", 29), nestedWords(29, asItIs, text(long))...)
	checkParts(t, strings.Repeat("$", n), text(strings.Repeat("$", n)))
	for _, s := range []string{`a\b`, "$a", `"$a"`, "$(a)", "${a-b}", "''a"} {
		if got, f := Parse(strings.Repeat(s, n/10)); f != api.OK || len(got) < n/10 {
			t.Errorf("H1: %q many times: %d parts and %d", s, len(got), f)
		}
	}
}
