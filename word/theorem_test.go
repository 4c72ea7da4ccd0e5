package word

import (
	"slices"
	"strings"
	"testing"

	"scullion/api"
)

// checkPrinted fails unless the printed parts of a string have the same parts, and print as the same text. Print puts each quoted part between quotes of its own, so that what it writes may have more units in one another than what was parsed; if these are too many, that text is refused.
func checkPrinted(t *testing.T, s string, parts list) {
	t.Helper()
	printed := Print(parts)
	again, f := Parse(printed)
	if openUnits(printed) > 30 {
		checkRefused(t, printed, api.ErrWord)
		return
	}
	if f != api.OK || !same(again, parts) {
		t.Fatalf("H3: %.200q has %s, but %.200q has %s and %d", s, told(parts), printed, told(again), f)
	}
	if twice := Print(again); twice != printed {
		t.Fatalf("H3: %.200q is printed as %.200q, and then as %.200q", s, printed, twice)
	}
}

// checkTheorem fails unless a string has parts for which H3 holds. It returns whether these are printed with no more units in one another than there may be.
func checkTheorem(t *testing.T, s string) bool {
	t.Helper()
	parts, f := Parse(s)
	if f != api.OK {
		t.Fatalf("H1: %.200q: the error %d", s, f)
	}
	checkPrinted(t, s, parts)
	return openUnits(Print(parts)) <= 30
}

func TestPrintedParts(t *testing.T) {
	for _, c := range wordCases() {
		checkTheorem(t, c.s)
		checkTheorem(t, c.s+c.s)
	}
	for i := range 256 {
		c := string([]byte{byte(i)})
		checkTheorem(t, `\`+c)
		if !strings.Contains("\\'\"({", c) {
			checkTheorem(t, c)
			checkTheorem(t, "$"+c+"a")
			checkTheorem(t, "'"+c+`'"`+c+`"`)
		}
	}
}

// TestPrintedDeepParts has Words that are nested as deeply as they may be.
func TestPrintedDeepParts(t *testing.T) {
	check := func(s string, readable bool) {
		t.Helper()
		if checkTheorem(t, s) != readable {
			t.Errorf("H3: %q is printed with %d units", s, openUnits(Print(first(Parse(s)))))
		}
	}
	for n := range 27 {
		for _, inner := range []string{"", "b", "'b'", `"b"`, "$b", "${b}", "${#b}", "$((1))", "''"} {
			check(nested("${a-", inner, "}", n), true)
			check("c"+nested("${a-", inner, "}", n)+`"d"`, true)
		}
		check(nested("${a-", `"$b"`, "}", n), true)
	}
	check(nested("${a-", "b", "}", 29), true)
	check(nested("${a-", "'b'", "}", 29), true)
	check(nested("${a-", "$b", "}", 28), true)
	check(nested("${a-", "$((1))", "}", 27), true)
	// A name is printed in braces, which the parsed text needn't have.
	check(nested("${a-", "$b", "}", 29), false)
	check(nested("${a-", `"$b"`, "}", 28), false)
	for n := 1; n <= 28; n++ {
		s := `"` + nested("${a-", "b", "}", n) + `"`
		check(s, n <= 14)
		check(`"c`+s[1:], n <= 14)
	}
	for n := 1; n <= 14; n++ {
		check(nested(`"${a-`, "b", `}"`, n), true)
		check(nested(`"${a-`, "'b'", `}"`, n), true)
		check(nested(`${a-"b`, "", `c"}`, n), true)
	}
	for n := range 27 {
		deep := nested("(", "1", ")", n)
		check("$(("+deep+"))$( "+deep+" )", true)
		check(`"$((`+deep+`))"`, true)
		check(`"$( `+deep+` )$b"`, true)
		check("${a-$(("+nested("(", "1", ")", 26-n)+"))}"+nested("${a-", `"$((`+nested("(", "1", ")", 26-n)+`))"`, "}", n), true)
	}
}

// first returns parts without the error beside them.
func first(parts list, _ api.Errno) list { return parts }

// someTexts returns texts in which everything that means something in a word stands.
func someTexts() []string {
	l := []string{"", "a", "'", "''", `"`, `\`, "$", "$a", "${", "${a}", "$(", "$(a)", "$((1))", "}", ")", "`", "a b\t\n", "#", "it's", `\'`, `"\"`, "é\xff\x00", "*?[", "~"}
	for seed := range 2000 {
		next := numbers(seed)
		l = append(l, somePieces(next, 1+next(10)))
	}
	return l
}

// TestQuotedTexts passes every text on unchanged, in whichever way it is quoted.
func TestQuotedTexts(t *testing.T) {
	escaped := strings.NewReplacer(`\`, `\\`, `"`, `\"`, "$", `\$`, "`", "\\`")
	for _, s := range someTexts() {
		for _, word := range []string{Print(list{qtext(s)}), `"` + escaped.Replace(s) + `"`, "'" + strings.ReplaceAll(s, "'", `'"'"'`) + "'"} {
			if got, f := Parse(word); f != api.OK || !same(got, list{qtext(s)}) {
				t.Errorf("P2: %q in quotes is %q, which has %s and %d", s, word, told(got), f)
			}
		}
		var backslashes strings.Builder
		for i := range len(s) {
			backslashes.WriteString(`\` + s[i:i+1])
		}
		if s != "" {
			checkParts(t, backslashes.String(), qtext(s))
		}
		checkParts(t, "$x"+Print(list{qtext(s)})+"$y", param("x"), qtext(s), param("y"))
		checkParts(t, "${x-"+Print(list{qtext(s)})+"}", op("x", "-", qtext(s)))
		checkParts(t, `"${x-`+Print(list{qtext(s)})+`}"`, quoted(op("x", "-", qtext(s))))
	}
}

// deepCopy returns parts that share nothing with others.
func deepCopy(l list) list {
	var parts list
	for _, p := range l {
		p.Word = deepCopy(p.Word)
		parts = append(parts, p)
	}
	return parts
}

// TestArgumentsAndResults prints parts of a greater list, which stay as they are, and has results that depend on no other calls and share nothing with each other.
func TestArgumentsAndResults(t *testing.T) {
	const s = `a'b'"${c-d"e${f}"$((1))}$(g)"${h-${i}j}`
	want, _ := Parse(s)
	kept := deepCopy(want)
	printed := Print(want)
	if !same(want, kept) {
		t.Errorf("R3: Print changed %s to %s", told(kept), told(want))
	}
	spare := append(slices.Clone(kept), text("x"), text("y"))
	if got := Print(spare[:len(kept)]); got != printed || spare[len(kept)].Text != "x" || !same(spare[:len(kept)], kept) {
		t.Errorf("R3: %q, and then %s", got, told(spare))
	}
	other, _ := Parse(s)
	for i := range other {
		for k := range other[i].Word {
			other[i].Word[k] = text("z")
		}
		_ = append(other[i].Word, text("z"))
		other[i] = text("z")
	}
	Parse("${a")
	Parse(nested("${a-", "", "}", 40))
	if again, f := Parse(s); f != api.OK || !same(want, kept) || !same(again, kept) || Print(kept) != printed {
		t.Errorf("R4: %s and %d, and %s before", told(again), f, told(want))
	}
}
