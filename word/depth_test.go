package word

import (
	"strings"
	"testing"

	"scullion/api"
)

// nested returns a text within so many units of a kind.
func nested(opening, text, closing string, depth int) string {
	return strings.Repeat(opening, depth) + text + strings.Repeat(closing, depth)
}

// nestedWords returns a part whose Words are nested so often, with a last Word.
func nestedWords(depth int, all func(api.Part) api.Part, last ...api.Part) list {
	parts := list(last)
	for range depth {
		parts = list{all(op("a", "-", parts...))}
	}
	return parts
}

func asItIs(p api.Part) api.Part { return p }

// TestDepthOfWords nests Words up to the depth 30, where the string itself has the depth 1, and beyond it.
func TestDepthOfWords(t *testing.T) {
	for n := range 30 {
		checkParts(t, nested("${a-", "", "}", n), nestedWords(n, asItIs)...)
		checkParts(t, nested("${a-", "b'c'", "}", n), nestedWords(n, asItIs, text("b"), qtext("c"))...)
		checkParts(t, nested("${a-", "${b}", "}", n), nestedWords(n, asItIs, param("b"))...)
		checkParts(t, nested("${a-", "${#b}", "}", n), nestedWords(n, asItIs, op("b", "len"))...)
		checkParts(t, nested("${a-", "$((1))", "}", n), nestedWords(n, asItIs, arith("1"))...)
		checkParts(t, nested("${a-", `"$b"`, "}", n), nestedWords(n, asItIs, quoted(param("b")))...)
		if n > 0 {
			checkParts(t, `"`+nested("${a-", "b", "}", n)+`"`, nestedWords(n, quoted, qtext("b"))...)
			checkParts(t, nested(`"${a-`, "b", `}"`, n), nestedWords(n, quoted, qtext("b"))...)
			checkRefused(t, nested("${a-", "$(b)", "}", n), api.ErrWord)
		}
	}
	for _, n := range []int{30, 31, 32, 40, 60, 100, 1000} {
		for _, inner := range []string{"", "b", "'b'", "${b}", "$((1))", "${", "${}", "$(b)", "$b"} {
			if inner == "${" {
				checkRefused(t, nested("${a-", inner, "}", n), api.ErrWord)
				continue
			}
			checkRefused(t, nested("${a-", inner, "}", n), api.ErrLong)
			checkRefused(t, `"`+nested("${a-", inner, "}", n)+`"`, api.ErrLong)
			checkRefused(t, nested(`"${a-`, inner, `}"`, n), api.ErrLong)
			checkRefused(t, "$b"+nested("${a-", inner, "}", n)+"c", api.ErrLong)
		}
	}
}

// TestWordsSideBySide has many Words, which are as deep as the first of them.
func TestWordsSideBySide(t *testing.T) {
	row, want := "", list{}
	for range 50 {
		row += "${b-c}"
		want = append(want, op("b", "-", text("c")))
	}
	checkParts(t, row, want...)
	checkParts(t, nested("${a-", row, "}", 28), nestedWords(28, asItIs, want...)...)
	checkRefused(t, nested("${a-", row, "}", 29), api.ErrLong)
}

// TestLeftmostError has two errors in one string.
func TestLeftmostError(t *testing.T) {
	long := nested("${a-", "b", "}", 30)
	for _, bad := range []string{"${}", "${a:}", "${1=b}", "${a-$(b)}", "${a-${}}"} {
		checkRefused(t, bad+long, api.ErrWord)
		checkRefused(t, long+bad, api.ErrLong)
		checkRefused(t, `"`+bad+long+`"`, api.ErrWord)
		checkRefused(t, `"`+long+bad+`"`, api.ErrLong)
		checkRefused(t, `"`+long+`"`+bad, api.ErrLong)
		checkRefused(t, "${c-"+bad+long+"}", api.ErrWord)
		checkRefused(t, "${c-"+long+bad+"}", api.ErrLong)
	}
	for _, bad := range []string{`\`, "'", `"`, "$(", "${", "${a"} {
		checkRefused(t, long+bad, api.ErrLong)
	}
	// A unit that is not closed begins before what is in it.
	for _, bad := range []string{`"`, "$(", "${", "${c", "${c-", `"${c-`, `"$(`} {
		checkRefused(t, bad+long, api.ErrWord)
	}
	for _, bad := range []string{`\`, "'", "$(", "${", "${a"} {
		checkRefused(t, "${c-"+long+bad, api.ErrWord)
		checkRefused(t, `"`+long+bad, api.ErrWord)
	}
}

// TestErrorsInBraces has the order of the errors of a parameter in braces.
func TestErrorsInBraces(t *testing.T) {
	long := nested("${a-", "b", "}", 30)
	for _, s := range []string{"${-" + long + "}", "${" + long + "}", "${c:" + long + "}", "${c " + long + "}", "${1=" + long + "}", "${#:=" + long + "}", "${#c" + long + "}"} {
		checkRefused(t, s, api.ErrWord)
	}
	// A Command among the parts of a Word is an error behind all others of that Word.
	for _, s := range []string{"${c-$(d)" + long + "}", "${c-" + long + "$(d)}", `${c-"$(d)` + long + `"}`, `"${c=$(d)` + long + `}"`, "${c-${d-$(e)" + long + "}}", "${c-$(d)${e-" + long + "}}"} {
		checkRefused(t, s, api.ErrLong)
	}
	// In another Word to the left it is one before them.
	for _, s := range []string{"${c-${d-$(e)}" + long + "}", "${c-$(d)${e-$(f)}" + long + "}", "${c-$(d)}" + long} {
		checkRefused(t, s, api.ErrWord)
	}
}

// TestDepthOfUnits nests units in a `$(`, where as many may be nested in one another as in a word of layer 7.
func TestDepthOfUnits(t *testing.T) {
	for _, unit := range [][2]string{{"$(", ")"}, {"(", ")"}, {"${", "}"}, {`$("`, `")`}, {`"${`, `}"`}} {
		units := strings.Count(unit[0], "(") + strings.Count(unit[0], "{") + strings.Count(unit[0], `"`)
		for n := range 40 {
			for _, inner := range []string{"", "a", "'", " ", `\a`, "'a'"} {
				within := unit[0][len(unit[0])-1]
				if inner == "'" && (within != '"' || n == 0) {
					continue
				}
				content := nested(unit[0], inner, unit[1], n)
				deepest := 1 + units*n
				if inner != "" {
					deepest++
				}
				for _, before := range []string{"", "a", "$b"} {
					if deepest > 30 {
						checkRefused(t, before+"$( "+content+" )", api.ErrWord)
						checkRefused(t, before+`"$( `+content+` )"`, api.ErrWord)
						continue
					}
					got, f := Parse(before + "$( " + content + " )")
					if f != api.OK || len(got) == 0 || !samePart(got[len(got)-1], command(" "+content+" ")) {
						t.Errorf("H1: %d of %q with %q: %s and %d", n, unit, inner, told(got), f)
					}
				}
			}
		}
	}
	checkParts(t, nested("$(", "", ")", 30), command(nested("$(", "", ")", 29)))
	checkRefused(t, nested("$(", "", ")", 31), api.ErrWord)
	checkParts(t, "$("+nested("(", "1", ")", 28)+")", arith(nested("(", "1", ")", 27)))
	checkRefused(t, "$("+nested("(", "1", ")", 29)+")", api.ErrWord)
	checkRefused(t, "${a-$("+nested("(", "1", ")", 29)+")}", api.ErrWord)
}

// TestManyOpenings has more openings than a stack would hold if each one were followed.
func TestManyOpenings(t *testing.T) {
	const n = 1000000
	for _, opening := range []string{"$(", "${", "$((", "${a-", `"${a-`, `"$(`, `$("`, `"'${`} {
		checkRefused(t, strings.Repeat(opening, n), api.ErrWord)
	}
	checkRefused(t, nested("${a-", "", "}", n), api.ErrLong)
	checkRefused(t, nested(`"${a-`, "", `}"`, n), api.ErrLong)
	checkRefused(t, nested("$(", "", ")", n), api.ErrWord)
	checkRefused(t, nested("${", "", "}", n), api.ErrWord)
	checkRefused(t, "${a-"+nested("(", "", ")", n), api.ErrWord)
}

// TestLongStrings has strings that are longer than a script may be.
func TestLongStrings(t *testing.T) {
	const n = 1000000
	long := strings.Repeat("a", n)
	checkParts(t, long, text(long))
	checkParts(t, "'"+long+"'", qtext(long))
	checkParts(t, `"`+long+`"`, qtext(long))
	checkParts(t, strings.Repeat(`\a`, n), qtext(long))
	checkParts(t, strings.Repeat("'a'", n), qtext(long))
	checkParts(t, "$"+long, param(long))
	checkParts(t, "${"+long+"}", param(long))
	checkParts(t, "${#"+long+"}", op(long, "len"))
	checkParts(t, "$("+long+")", command(long))
	checkParts(t, "${b-"+long+"}", op("b", "-", text(long)))
	checkParts(t, nested("${a-", long, "}", 29), nestedWords(29, asItIs, text(long))...)
	checkParts(t, strings.Repeat("$", n), text(strings.Repeat("$", n)))
	for _, s := range []string{`a\b`, "$a", `"$a"`, "$(a)", "${a-b}", "''a"} {
		if got, f := Parse(strings.Repeat(s, n/10)); f != api.OK || len(got) < n/10 {
			t.Errorf("H1: %q many times: %d parts and %d", s, len(got), f)
		}
	}
}
