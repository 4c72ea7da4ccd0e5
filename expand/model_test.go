package expand_test

import (
	"maps"
	"math/big"
	"regexp"
	"slices"
	"strconv"
	"strings"
	"testing"

	"scullion/api"
	"scullion/arith"
	"scullion/expand"
	"scullion/fields"
	"scullion/glob"
	"scullion/pattern"
	"scullion/word"
)

// model expands parts by recursion, with its variables in a map.
type model struct {
	vars   map[string]api.Var
	args   []string
	status int
	outs   []string
}

func newModel(s api.Shell, outs []string) *model {
	m := &model{vars: map[string]api.Var{}, args: s.Args, status: s.Status, outs: outs}
	m.setAll(s.Vars)
	return m
}

func (m *model) setAll(l []api.Var) {
	clear(m.vars)
	for _, v := range l {
		m.vars[v.Name] = v
	}
}

// shell returns the shell as it is now.
func (m *model) shell() api.Shell {
	s := api.Shell{Args: m.args, Status: m.status}
	for _, name := range slices.Sorted(maps.Keys(m.vars)) {
		s.Vars = append(s.Vars, m.vars[name])
	}
	return s
}

func (m *model) ifs() string {
	if v, ok := m.vars["IFS"]; ok {
		return v.Value
	}
	return " \t\n"
}

var digits = regexp.MustCompile(`^[0-9]+$`)

// value returns the value of a parameter, or false if it is not set.
func (m *model) value(name string) (string, bool) {
	if name == "@" || name == "*" {
		return strings.Join(m.args, " "), len(m.args) != 0
	}
	if special, ok := map[string]string{"#": strconv.Itoa(len(m.args)), "?": strconv.Itoa(m.status), "0": "sh"}[name]; ok {
		return special, true
	}
	if digits.MatchString(name) {
		n, _ := new(big.Int).SetString(name, 10)
		for i, argument := range m.args {
			if n.Cmp(big.NewInt(int64(i+1))) == 0 {
				return argument, true
			}
		}
		return "", false
	}
	v, ok := m.vars[name]
	return v.Value, ok
}

// segment returns the segment of a part with a text.
func segment(p api.Part, s string) []api.Seg {
	if p.Quoted {
		return []api.Seg{{Kind: api.Literal, Text: s}}
	}
	return []api.Seg{{Kind: api.Split, Text: s}}
}

// all returns the segments of parts, which are in a Word or not.
func (m *model) all(l []api.Part, inWord bool) ([]api.Seg, api.Errno) {
	var segments []api.Seg
	for _, p := range l {
		more, f := m.one(p, inWord)
		if f != api.OK {
			return nil, f
		}
		segments = slices.Concat(segments, more)
	}
	return segments, api.OK
}

func (m *model) one(p api.Part, inWord bool) ([]api.Seg, api.Errno) {
	switch {
	case p.Kind == api.Text && !p.Quoted:
		return []api.Seg{{Kind: api.Plain, Text: p.Text}}, api.OK
	case p.Kind == api.Text:
		return segment(p, p.Text), api.OK
	case p.Kind == api.Param:
		return m.param(p)
	case p.Kind == api.Command && (inWord || len(m.outs) == 0):
		return segment(p, ""), api.OK
	case p.Kind == api.Command:
		out := m.outs[0]
		m.outs = m.outs[1:]
		for strings.HasSuffix(out, "\n") {
			out = out[:len(out)-1]
		}
		return segment(p, out), api.OK
	case p.Kind == api.Arith:
		n, l, f := arith.Eval(p.Text, m.shell().Vars)
		if f != api.OK {
			return nil, f
		}
		m.setAll(l)
		return segment(p, strconv.Itoa(n)), api.OK
	}
	return nil, api.OK
}

func (m *model) param(p api.Part) ([]api.Seg, api.Errno) {
	value, isSet := m.value(p.Name)
	usable := isSet && !(p.Op[:min(len(p.Op), 1)] == ":" && value == "")
	arguments := p.Name == "@" || p.Name == "*"
	switch strings.TrimPrefix(p.Op, ":") {
	case "":
		return m.plain(p, value)
	case "len":
		if arguments {
			return segment(p, strconv.Itoa(len(m.args))), api.OK
		}
		return segment(p, strconv.Itoa(len(value))), api.OK
	case "-":
		if usable {
			return segment(p, value), api.OK
		}
		return m.word(p)
	case "+":
		if !usable {
			return segment(p, ""), api.OK
		}
		return m.word(p)
	case "=":
		if usable {
			return segment(p, value), api.OK
		}
		return m.assigned(p)
	case "?":
		if usable {
			return segment(p, value), api.OK
		}
		return nil, api.ErrUnset
	}
	return m.removed(p, value)
}

// plain returns the segments of a parameter without an Op.
func (m *model) plain(p api.Part, value string) ([]api.Seg, api.Errno) {
	if p.Name == "*" && p.Quoted {
		separator := ""
		if ifs := m.ifs(); ifs != "" {
			separator = string([]byte{ifs[0]})
		}
		return segment(p, strings.Join(m.args, separator)), api.OK
	}
	if p.Name != "@" && p.Name != "*" {
		return segment(p, value), api.OK
	}
	var segments []api.Seg
	for i, argument := range m.args {
		if i != 0 {
			segments = append(segments, api.Seg{Kind: api.Break})
		}
		segments = append(segments, segment(p, argument)...)
	}
	return segments, api.OK
}

// word returns the segments of the Word of a parameter that becomes its Word.
func (m *model) word(p api.Part) ([]api.Seg, api.Errno) {
	segments, f := m.all(p.Word, true)
	if f == api.OK && len(segments) == 0 && p.Quoted {
		return segment(p, ""), api.OK
	}
	return segments, f
}

// assigned returns the segments of a parameter that is set to its Word.
func (m *model) assigned(p api.Part) ([]api.Seg, api.Errno) {
	segments, f := m.all(p.Word, true)
	if f != api.OK {
		return nil, f
	}
	if !regexp.MustCompile(`^[A-Za-z_][A-Za-z0-9_]*$`).MatchString(p.Name) {
		return nil, api.ErrArg
	}
	v := m.vars[p.Name]
	if v.ReadOnly {
		return nil, api.ErrRead
	}
	v.Name, v.Value = p.Name, fields.Joined(segments, false)
	m.vars[p.Name] = v
	return segment(p, v.Value), api.OK
}

// removed returns the segments of a parameter from which its Word is removed: it looks for the prefixes and suffixes that match.
func (m *model) removed(p api.Part, value string) ([]api.Seg, api.Errno) {
	segments, f := m.all(p.Word, true)
	if f != api.OK {
		return nil, f
	}
	matched := fields.Joined(segments, true)
	sizes := make([]int, len(value)+1)
	for i := range sizes {
		sizes[i] = i
	}
	if len(p.Op) == 2 {
		slices.Reverse(sizes)
	}
	for _, size := range sizes {
		if p.Op[0] == '#' && pattern.Match(matched, value[:size]) {
			return segment(p, value[size:]), api.OK
		}
		if p.Op[0] == '%' && pattern.Match(matched, value[len(value)-size:]) {
			return segment(p, value[:len(value)-size]), api.OK
		}
	}
	return segment(p, value), api.OK
}

// modelFields returns the fields, with paths, of segments.
func modelFields(segments []api.Seg, ifs string) []string {
	var found []string
	for _, field := range fields.Fields(segments, ifs) {
		found = append(found, glob.Glob(process(), field)...)
	}
	return found
}

// checkModel fails unless parts are expanded as the model expands them, and returns the error.
func checkModel(t *testing.T, l []api.Part, s api.Shell, outs []string) api.Errno {
	t.Helper()
	m := newModel(s, outs)
	segments, f := m.all(l, false)
	if f != api.OK {
		checkError(t, l, s, outs, f)
		return f
	}
	after, told := m.shell(), word.Print(l)
	for _, pattern := range []bool{false, true} {
		text, got, e := expand.Text(l, s, outs, pattern)
		if want := fields.Joined(segments, pattern); text != want || e != api.OK || !sameShell(got, after) {
			t.Fatalf("P5: Text of %s in %s: %q, %s and %d, not %q and %s", told, shown(s), text, shown(got), e, want, shown(after))
		}
	}
	found, got, e := expand.Fields(process(), l, s, outs)
	if want := modelFields(segments, m.ifs()); !slices.Equal(found, want) || e != api.OK || !sameShell(got, after) {
		t.Fatalf("P6: Fields of %s in %s: %q, %s and %d, not %q and %s", told, shown(s), found, shown(got), e, want, shown(after))
	}
	return api.OK
}

// checkError fails unless parts have an error, and nothing beside it but the shell as it was.
func checkError(t *testing.T, l []api.Part, s api.Shell, outs []string, want api.Errno) {
	t.Helper()
	text, after, f := expand.Text(l, s, outs, false)
	if text != "" || f != want || !sameShell(after, s) {
		t.Fatalf("P5: Text of %s in %s: %q, %s and %d, not %d", word.Print(l), shown(s), text, shown(after), f, want)
	}
	found, after, f := expand.Fields(process(), l, s, outs)
	if len(found) != 0 || f != want || !sameShell(after, s) {
		t.Fatalf("P6: Fields of %s in %s: %q, %s and %d, not %d", word.Print(l), shown(s), found, shown(after), f, want)
	}
}

// counts are how often there was each error.
type counts map[api.Errno]int

// check fails unless there was each error at least so often.
func (c counts) check(t *testing.T, least counts) {
	t.Helper()
	for f, n := range least {
		if c[f] < n {
			t.Errorf("only %d cases with the error %d, not %d", c[f], f, n)
		}
	}
}

// numbers returns a function that returns numbers below a bound, the same ones in every run.
func numbers(seed int) func(bound int) int {
	state := uint64(seed)*2862933555777941757 + 3037000493
	return func(bound int) int {
		state = state*6364136223846793005 + 1442695040888963407
		return int(state>>33) % bound
	}
}

// maker makes parts and shells.
type maker struct{ next func(int) int }

func (m maker) pick(l ...string) string { return l[m.next(len(l))] }

var operators = list("", "", "", "len", "-", ":-", "=", ":=", "?", ":?", "+", ":+", "#", "##", "%", "%%", "-", "=", ":=", "+")

// text returns a text of a few bytes.
func (m maker) text() string {
	if m.next(30) == 0 {
		return string([]byte{byte(m.next(256)), byte(m.next(256))})
	}
	return m.pick("", "", "a", "b", " ", "  ", "a b", " a", "*", "?", "[a]", `\`, `\*`, ":", "a:b", "::", "/", "d/", ".", "5", "\n", "a\n\n", "\t", "é", "ab", "aab", "b*a")
}

// part returns a part with Words in it down to a depth.
func (m maker) part(depth int) api.Part {
	p := api.Part{Quoted: m.next(3) == 0}
	switch kind := m.next(20); {
	case kind < 6:
		p.Text = m.text()
	case kind < 16:
		p.Kind, p.Op = api.Param, m.pick(operators...)
		p.Name = m.pick("a", "b", "c", "IFS", "r", "e", "none", "x", "#", "?", "@", "*", "@", "*", "0", "1", "2", "3", "01", "00", "10", "18446744073709551617", "", "1a")
		if strings.HasSuffix(p.Op, "?") && m.next(3) > 0 {
			p.Name = m.pick("a", "b", "#", "?", "0", "IFS")
		}
		if strings.HasSuffix(p.Op, "=") && m.next(10) > 0 {
			p.Name = m.pick("a", "b", "c", "none", "x", "IFS", "e")
		}
		if depth > 0 {
			p.Word = m.parts(depth - 1)
		}
	case kind < 18:
		p.Kind, p.Text = api.Command, m.pick("c", "d")
	case kind < 19 || m.next(3) > 0:
		p.Kind, p.Text = api.Arith, m.pick("1", "2 * 3", "-7", "a", "x = 2", "b += 1", "c = c + 1", "(IFS = 1)", "e", "")
		if m.next(12) == 0 {
			p.Text = m.pick("1/0", "1 +", "r = 1", "none %= 0", strings.Repeat("(", 40))
		}
	default:
		p.Kind, p.Text = m.next(7)-3, m.text()
		if p.Kind == api.Param {
			p.Name = "a"
		}
	}
	return p
}

func (m maker) parts(depth int) []api.Part {
	l := make([]api.Part, m.next(5))
	for i := range l {
		l[i] = m.part(depth)
	}
	return l
}

// shell returns a shell with some of a few variables.
func (m maker) shell() api.Shell {
	s := api.Shell{Status: m.next(300) - 20}
	if m.next(2) == 0 {
		s.Vars = append(s.Vars, set("IFS", m.pick("", " ", ":", " :", "a", ":a ", `\`, "1", "éa", m.text())))
	}
	for _, name := range list("a", "b", "c", "e", "x") {
		if m.next(3) > 0 {
			s.Vars = append(s.Vars, api.Var{Name: name, Value: m.text(), Exported: m.next(4) == 0, ReadOnly: m.next(8) == 0})
		}
	}
	if s = withVar(s, "r", m.text()); m.next(2) == 0 {
		s.Vars[slices.IndexFunc(s.Vars, func(v api.Var) bool { return v.Name == "r" })].ReadOnly = true
	}
	for range m.next(4) {
		s.Args = append(s.Args, m.text()+m.text())
	}
	return s
}

// outs returns outputs.
func (m maker) outs() []string {
	var l []string
	for range m.next(4) {
		l = append(l, m.text()+m.pick("", "\n", "\n\n", " \n"))
	}
	return l
}

// TestMadeParts has parts of all sorts, also those that no word has.
func TestMadeParts(t *testing.T) {
	seen := counts{}
	for seed := range 60000 {
		m := maker{numbers(seed)}
		seen[checkModel(t, m.parts(m.next(4)), m.shell(), m.outs())]++
	}
	seen.check(t, counts{api.OK: 30000, api.ErrUnset: 500, api.ErrRead: 200, api.ErrArg: 100, api.ErrZero: 100, api.ErrArith: 500, api.ErrLong: 100})
}

// TestMadeWords has texts out of pieces, if they are words.
func TestMadeWords(t *testing.T) {
	seen := counts{}
	for seed := range 60000 {
		m := maker{numbers(seed)}
		var b strings.Builder
		for range m.next(6) {
			b.WriteString(m.piece(3))
		}
		l, f := word.Parse(b.String())
		if f != api.OK {
			continue
		}
		s, outs := m.shell(), m.outs()
		seen[checkModel(t, l, s, outs)]++
		checkPrinted(t, l, s, outs)
	}
	seen.check(t, counts{api.OK: 25000, api.ErrUnset: 200, api.ErrRead: 100, api.ErrZero: 100})
}

// piece returns a piece of a word.
func (m maker) piece(depth int) string {
	if depth == 0 {
		return m.pick("a", "b", " ", "*", "'*'", `\`+"*", "$a", `"$b"`, "$@", "$*", "$1", "5")
	}
	switch m.next(8) {
	case 0:
		return `"` + m.piece(0) + m.piece(depth-1) + `"`
	case 1:
		return "$(" + m.pick("c", "d e") + ")"
	case 2:
		return "$((" + m.pick("a", "1", "c = 3", "b", "2 - 7", "1/0", "x += 2") + "))"
	case 3, 4, 5:
		name := m.pick("a", "b", "c", "e", "x", "r", "IFS", "none", "@", "*", "1", "2", "#", "?")
		return "${" + name + m.pick(operators[4:]...) + m.piece(depth-1) + m.piece(depth-1) + "}"
	case 6:
		return m.pick("$a", `"$a"`, "$@", `"$@"`, "$*", `"$*"`, "${#a}", "$1", "$x", `"$x"`)
	}
	return m.piece(0)
}

// checkPrinted fails unless a word is expanded to the same fields after it was printed.
func checkPrinted(t *testing.T, l []api.Part, s api.Shell, outs []string) {
	t.Helper()
	printed := parts(t, word.Print(l))
	before, after, f := expand.Fields(process(), l, s, outs)
	again, afterwards, e := expand.Fields(process(), printed, s, outs)
	if !slices.Equal(before, again) || !sameShell(after, afterwards) || f != e {
		t.Fatalf("Fields of %s: %q and %d, and %q and %d after it was printed", word.Print(l), before, f, again, e)
	}
	if !slices.Equal(expand.Commands(l), expand.Commands(printed)) {
		t.Fatalf("P1: the commands of %s: %q, and %q after it was printed", word.Print(l), expand.Commands(l), expand.Commands(printed))
	}
}
