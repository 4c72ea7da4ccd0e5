package lexer

import (
	"slices"
	"strings"
	"testing"

	"scullion/api"
)

// validScripts returns many scripts that have tokens.
func validScripts() []string {
	var l []string
	for _, c := range slices.Concat(scripts, operatorScripts, commentScripts, unitScripts) {
		l = append(l, c.script)
	}
	for seed := 0; len(l) < 20000; seed++ {
		next := numbers(seed)
		script := someScript(next, 1+next(15))
		if _, err := Tokens(script); err == api.OK {
			l = append(l, script)
		}
	}
	return l
}

// checkSame fails unless another script has the tokens of a script.
func checkSame(t *testing.T, script, other string, want list) {
	t.Helper()
	if got, err := Tokens(other); err != api.OK || !slices.Equal(got, want) {
		t.Fatalf("G2: %q has %s, but %q has %s and %d", script, told(want), other, told(got), err)
	}
}

func TestTextsSeparatedByBlanks(t *testing.T) {
	for _, script := range validScripts() {
		want, _ := Tokens(script)
		var texts []string
		for _, token := range want {
			texts = append(texts, token.Text)
		}
		for _, blanks := range []string{" ", "\t", " \t  "} {
			other := strings.Join(texts, blanks)
			checkSame(t, script, other, want)
			checkSame(t, script, blanks+other+blanks, want)
		}
	}
}

// apart tells whether two tokens are the same ones without anything between them.
func apart(a, b api.Token) bool {
	if a.Kind == api.Line || b.Kind == api.Line {
		return true
	}
	// A `$` and a `(` make a unit.
	return a.Kind != b.Kind && !strings.HasSuffix(a.Text, "$")
}

// TestCommentsAndBlanksBetweenTokens puts blanks between tokens, or nothing where they are apart, and comments before line ends.
func TestCommentsAndBlanksBetweenTokens(t *testing.T) {
	glued, commented := 0, 0
	for seed, script := range validScripts() {
		next := numbers(seed)
		want, _ := Tokens(script)
		var b strings.Builder
		for i, token := range want {
			if i > 0 && apart(want[i-1], token) && next(2) == 0 {
				glued++
			} else {
				b.WriteString([]string{" ", "\t", " \t"}[next(3)])
			}
			if token.Kind == api.Line && next(2) == 0 {
				b.WriteString([]string{" #", "\t# a b", " #'", " # \"$(${(", " #\\", " ##;&&\x00"}[next(6)])
				commented++
			}
			b.WriteString(token.Text)
		}
		checkSame(t, script, b.String(), want)
		checkSame(t, script, b.String()+" # ' \" \\", want)
	}
	if glued < 10000 || commented < 3000 {
		t.Errorf("G2: only %d tokens are glued, and only %d comments added", glued, commented)
	}
}

// TestScriptsAfterLineEnds joins scripts, the first of which ends with a line end.
func TestScriptsAfterLineEnds(t *testing.T) {
	all := validScripts()
	all = append(all, unclosed...)
	joined, refused := 0, 0
	for i, first := range all {
		one, err := Tokens(first)
		if err != api.OK {
			continue
		}
		if len(one) == 0 || one[len(one)-1] != line() || !strings.HasSuffix(first, "\n") {
			first += "\n"
			one = append(one, line())
		}
		for k := range 5 {
			second := all[len(all)-1-(i*7+k*1009)%len(all)]
			two, err := Tokens(second)
			joined++
			if err != api.OK {
				checkRefused(t, first+second, err)
				refused++
				continue
			}
			checkSame(t, second, first+second, slices.Concat(one, two))
		}
	}
	if joined < 50000 || refused < 100 {
		t.Errorf("G2: only %d scripts are joined, and only %d of them refused", joined, refused)
	}
}

// TestTokensAgain has no result that depends on earlier calls.
func TestTokensAgain(t *testing.T) {
	want, _ := Tokens("a 'b' | c # d")
	kept := slices.Clone(want)
	Tokens("'")
	other, _ := Tokens("e f; g h")
	if other[0] = word("i"); !slices.Equal(want, kept) {
		t.Errorf("R3: a later call changed %s to %s", told(kept), told(want))
	}
	want[0] = word("j")
	checkTokens(t, "a 'b' | c # d", kept)
}
