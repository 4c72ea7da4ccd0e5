package tuple

import (
	"slices"
	"strconv"
	"strings"
	"testing"

	"scullion/api"
)

// encodings are lists with their encodings, as B1 writes them.
var encodings = []struct {
	list []string
	text string
}{
	{nil, ""},
	{[]string{}, ""},
	{[]string{""}, "0:,"},
	{[]string{"", ""}, "0:,0:,"},
	{[]string{"a", ""}, "1:a,0:,"},
	{[]string{"", "a"}, "0:,1:a,"},
	{[]string{"a"}, "1:a,"},
	{[]string{"ab", "c"}, "2:ab,1:c,"},
	{[]string{"a", "bc"}, "1:a,2:bc,"},
	{[]string{"b", "a", "b"}, "1:b,1:a,1:b,"},
	{[]string{","}, "1:,,"},
	{[]string{":"}, "1::,"},
	{[]string{"0:,"}, "3:0:,,"},
	{[]string{"1:a,0:,"}, "7:1:a,0:,,"},
	{[]string{"a,1:b"}, "5:a,1:b,"},
	{[]string{"12", "3"}, "2:12,1:3,"},
	{[]string{"\x00", "\n", " "}, "1:\x00,1:\n,1: ,"},
	{[]string{"é", "世"}, "2:\xc3\xa9,3:\xe4\xb8\x96,"}, // bytes are counted, not runes
	{[]string{"\xff\xfe"}, "2:\xff\xfe,"},
	{[]string{"123456789"}, "9:123456789,"},
	{[]string{"1234567890"}, "10:1234567890,"},
}

// everyByte is a text of all bytes, in ascending order.
func everyByte() string {
	b := make([]byte, 256)
	for c := range b {
		b[c] = byte(c)
	}
	return string(b)
}

// aboutDigits are the lengths about a change of the number of digits, with their digits.
var aboutDigits = []struct {
	length int
	digits string
}{
	{0, "0"}, {1, "1"}, {8, "8"}, {9, "9"}, {10, "10"}, {11, "11"}, {19, "19"}, {20, "20"},
	{99, "99"}, {100, "100"}, {101, "101"}, {110, "110"}, {999, "999"}, {1000, "1000"}, {1001, "1001"},
	{9999, "9999"}, {10000, "10000"}, {99999, "99999"}, {100000, "100000"},
	{999999, "999999"}, {1000000, "1000000"}, {9999999, "9999999"}, {10000000, "10000000"},
}

// checkDecodes fails if text is not decoded to list.
func checkDecodes(t *testing.T, text string, list []string) {
	t.Helper()
	got, f := Decode(text)
	if f != api.OK || !slices.Equal(got, list) {
		t.Errorf("B2: %d bytes, %.70q: %.70q, %d, want %.70q", len(text), text, got, f, list)
	}
}

// checkRefused fails if text is decoded, or if something is returned beside the error.
func checkRefused(t *testing.T, text, reason string) {
	t.Helper()
	if got, f := Decode(text); f != api.ErrForm || len(got) != 0 {
		t.Errorf("B2: %.70q (%s): %.70q, %d, want ErrForm", text, reason, got, f)
	}
}

func TestEncode(t *testing.T) {
	for _, c := range encodings {
		if got := Encode(c.list); got != c.text {
			t.Errorf("B1: %q: %q, want %q", c.list, got, c.text)
		}
	}
}

func TestDecode(t *testing.T) {
	for _, c := range encodings {
		checkDecodes(t, c.text, c.list)
	}
}

func TestBytesOfEveryValue(t *testing.T) {
	all := everyByte()
	var list []string
	want := ""
	for i := range len(all) {
		list = append(list, all[i:i+1])
		want += "1:" + all[i:i+1] + ","
	}
	list = append(list, all)
	want += "256:" + all + ","
	if got := Encode(list); got != want {
		t.Errorf("B1: bytes of every value: %q", got)
	}
	checkDecodes(t, want, list)
}

func TestLengthsAboutAChangeOfTheNumberOfDigits(t *testing.T) {
	for _, c := range aboutDigits {
		list := []string{strings.Repeat("x", c.length), "y"}
		want := c.digits + ":" + list[0] + ",1:y,"
		if got := Encode(list); got != want {
			t.Errorf("B1: a text of %d bytes: %.20q", c.length, got)
		}
		checkDecodes(t, want, list)
	}
}

func TestLongLists(t *testing.T) {
	list := make([]string, 300000)
	for i := range list {
		list[i] = strconv.Itoa(i % 10)
	}
	got := Encode(list)
	if want := strings.Repeat("1:0,1:1,1:2,1:3,1:4,1:5,1:6,1:7,1:8,1:9,", 30000); got != want {
		t.Errorf("B1: a list of %d strings: %.70q", len(list), got)
	}
	checkDecodes(t, got, list)
	checkRefused(t, got+"1", "the last of many lengths without an end")
}

func TestTextsThatAreNoEncoding(t *testing.T) {
	for _, c := range []struct{ text, reason string }{
		{"1", "no colon"},
		{"1a,", "no colon"},
		{"0,", "no colon"},
		{"1;a,", "no colon"},
		{",", "no colon and no digits"},
		{":", "no digits"},
		{":,", "no digits"},
		{":a,", "no digits"},
		{"01:a,", "a leading zero"},
		{"00:,", "a leading zero"},
		{"000000001:a,", "leading zeros"},
		{"+1:a,", "a sign"},
		{"-1:a,", "a sign"},
		{"+0:,", "a sign"},
		{"-0:,", "a sign"},
		{"-:,", "a sign alone"},
		{" 1:a,", "a space before the digits"},
		{"1 :a,", "a space after the digits"},
		{"\n1:a,", "a line end before the digits"},
		{"0x1:a,", "a number in another base"},
		{"a:0123456789,", "a digit of another base"},
		{"1_0:0123456789,", "a number with an underscore"},
		{"1e0:a,", "a number with an exponent"},
		{"1.0:a,", "a number with a point"},
		{"\u0661:a,", "a digit of another script"},
		{"x:a,", "a letter for a digit"},
		{"1/:a,", "the byte before the digits"},
		{"1\x00:a,", "a zero byte"},
		{"1:", "nothing after the colon"},
		{"0:", "no comma"},
		{"1:a", "no comma"},
		{"2:a,", "the comma within the string"},
		{"3:a,", "too few bytes"},
		{"999999999:a,", "too few bytes"},
		{"0:a,", "another byte for the comma"},
		{"1:ab", "another byte for the comma"},
		{"1:ab,", "another byte for the comma"},
		{"1:a;", "another byte for the comma"},
		{"1:a:", "another byte for the comma"},
		{"1:a,x", "bytes after the encoding"},
		{"1:a,,", "a comma too many"},
		{"1:a, ", "a space after the encoding"},
		{"1:a,\n", "a line end after the encoding"},
		{"1:a,0", "a second string that is not complete"},
		{"1:a,0:", "a second string that is not complete"},
		{"1:a,01:b,", "a leading zero in a later length"},
		{"1:a,:b,", "no digits in a later length"},
		{"1:a,2:b,", "too few bytes in a later string"},
		{"0:,0:,0", "a last string that is not complete"},
	} {
		checkRefused(t, c.text, c.reason)
	}
}

func TestLengthsOfMoreThanNineDigits(t *testing.T) {
	for _, digits := range []string{
		"0000000000", "0000000001", "1000000000", "9999999999", "10000000000",
		"2147483648", "4294967297", // 2^31, and 1 modulo 2^32
		"9223372036854775807", "9223372036854775808", "18446744073709551617", // 2^63 - 1, 2^63, and 1 modulo 2^64
		strings.Repeat("1", 100), strings.Repeat("0", 100) + "1",
	} {
		checkRefused(t, digits+":a,", "a length of more than nine digits")
		checkRefused(t, "1:a,"+digits+":a,", "a later length of more than nine digits")
	}
	checkRefused(t, strings.Repeat("1", 100000), "digits without an end")
}

// Texts of so many bytes are too long for a test of Decode.
func TestNineDigitsAreTheMost(t *testing.T) {
	for _, c := range []struct {
		digits string
		want   int
		ok     bool
	}{
		{"99999999", 99999999, true},
		{"100000000", 100000000, true},
		{"999999999", 999999999, true},
		{"1000000000", 0, false},
		{"1000000001", 0, false},
	} {
		if n, ok := lengthOf(c.digits); n != c.want || ok != c.ok {
			t.Errorf("B2: the length %s: %d, %t", c.digits, n, ok)
		}
	}
}

// shortEncodings are the encodings of at most size bytes, made from strings of the bytes of alphabet, with their lists.
func shortEncodings(size int, alphabet string) map[string][]string {
	texts := []string{""} // of the strings that may occur
	for from, n := 0, 1; n <= size-3; n++ {
		end := len(texts)
		for ; from < end; from++ {
			for i := range len(alphabet) {
				texts = append(texts, texts[from]+alphabet[i:i+1])
			}
		}
	}
	all := map[string][]string{"": nil}
	work := []string{""}
	for len(work) > 0 {
		e := work[0]
		work = work[1:]
		for _, s := range texts {
			if longer := e + strconv.Itoa(len(s)) + ":" + s + ","; len(longer) <= size {
				all[longer] = append(slices.Clone(all[e]), s)
				work = append(work, longer)
			}
		}
	}
	return all
}

// Every text of few bytes is decoded if it is one of the encodings of all lists, and is refused otherwise.
func TestExactlyTheEncodingsAreDecoded(t *testing.T) {
	const alphabet = "01234:," // 4 bytes are the most that a string of such a text has
	const size = 7
	want := shortEncodings(size, alphabet)
	texts := []string{""}
	for n := 0; n <= size; n++ {
		var longer []string
		for _, s := range texts {
			if list, ok := want[s]; ok {
				checkDecodes(t, s, list)
			} else {
				checkRefused(t, s, "no list has this encoding")
			}
			for i := range len(alphabet) {
				longer = append(longer, s+alphabet[i:i+1])
			}
		}
		texts = longer
	}
}

// someLists are lists in which the bytes of an encoding and others follow each other in many ways.
func someLists() [][]string {
	const alphabet = "0123456789:,,::a \x00\n\xff"
	state := uint32(2)
	below := func(n int) int { // the same numbers in every run
		state = state*1664525 + 1013904223
		return int(state>>8) % n
	}
	var lists [][]string
	for range 3000 {
		list := make([]string, below(6))
		for i := range list {
			b := make([]byte, below(14))
			for j := range b {
				b[j] = alphabet[below(len(alphabet))]
			}
			list[i] = string(b)
		}
		lists = append(lists, list)
	}
	for _, c := range encodings {
		lists = append(lists, c.list)
	}
	return lists
}

func TestDecodeUndoesEncode(t *testing.T) {
	for _, list := range someLists() {
		if got, f := Decode(Encode(list)); f != api.OK || !slices.Equal(got, list) {
			t.Errorf("B3: %q is decoded to %q, %d", list, got, f)
		}
	}
}

func TestDifferentListsHaveDifferentEncodings(t *testing.T) {
	first := map[string][]string{}
	for _, list := range someLists() {
		e := Encode(list)
		if other, ok := first[e]; ok && !slices.Equal(other, list) {
			t.Errorf("B3: %q and %q have the encoding %q", other, list, e)
		}
		first[e] = list
	}
}

func TestConcatenatedEncodings(t *testing.T) {
	lists := someLists()
	for i := range len(lists) - 1 {
		both := slices.Concat(lists[i], lists[i+1])
		e := Encode(lists[i]) + Encode(lists[i+1])
		if got := Encode(both); got != e {
			t.Errorf("B3: %q: %q, want %q", both, got, e)
		}
		if got, f := Decode(e); f != api.OK || !slices.Equal(got, both) {
			t.Errorf("B3: %q is decoded to %q, %d, want %q", e, got, f, both)
		}
	}
}

func TestArgumentsStayAsTheyAre(t *testing.T) {
	array := []string{"a", "", "1:b,", "beyond", "the length"}
	before := slices.Clone(array)
	Encode(array[:3])
	if !slices.Equal(array, before) {
		t.Errorf("R3: %q became %q", before, array)
	}
}

func TestResultsDependOnTheArgumentsAlone(t *testing.T) {
	for _, list := range someLists()[:300] {
		e := Encode(list)
		got, _ := Decode(e)
		for i := range got {
			got[i] = "overwritten"
		}
		Decode(e + "!")
		Encode([]string{e})
		if again := Encode(list); again != e {
			t.Errorf("R4: %q: %q, then %q", list, e, again)
		}
		checkDecodes(t, e, list)
	}
}
