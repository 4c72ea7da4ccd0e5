package arith_test

import (
	"runtime/debug"
	"slices"
	"strings"
	"testing"

	"scullion/api"
	"scullion/arith"
)

// many is a number of tokens that is too great for a call for each of them.
const many = 300000

// shortStack leaves little room for calls while a test runs.
func shortStack(t *testing.T) {
	room := debug.SetMaxStack(1 << 20)
	t.Cleanup(func() { debug.SetMaxStack(room) })
}

func TestLongExpressions(t *testing.T) {
	shortStack(t)
	checkValues(t, "M3", []valueCase{
		{"1" + strings.Repeat("+1", many), many + 1},
		{"1" + strings.Repeat("-1", many), 1 - many},
		{"1" + strings.Repeat("--1", many), many + 1},
		{"0" + strings.Repeat("+(1)", many), many},
		{"1" + strings.Repeat("*1", many), 1},
		{"1" + strings.Repeat("*3/3", many), 1},
		{"1" + strings.Repeat("<<1>>1", many), 1},
		{"0" + strings.Repeat("||0", many), 0},
		{"0" + strings.Repeat("||0", many) + "||3", 1},
		{"1" + strings.Repeat("||bad", many), 1},
		{"1" + strings.Repeat("&&1", many), 1},
		{"0" + strings.Repeat("&&bad", many), 0},
		{"0" + strings.Repeat("&&bad||0", many), 0},
		{"1" + strings.Repeat("==1", many), 1},
		{"1" + strings.Repeat("^1", many), 1},
		{"1" + strings.Repeat("|2&3", many), 3},
		{"a" + strings.Repeat("+a", many), 5 * (many + 1)},
		{"0" + strings.Repeat("+1?2:3", 29), 2},
		{strings.Repeat(" ", many) + "1" + strings.Repeat("\n", many), 1},
		{strings.Repeat(" ", many), 0},
		{strings.Repeat("0", many) + "7", 7},
		{"0x" + strings.Repeat("0", many) + "7", 7},
		{strings.Repeat("x", many), 0},
	})
	checkErrors(t, "M3", []errorCase{
		{"1" + strings.Repeat("+1", many) + "+", api.ErrArith},
		{"1" + strings.Repeat("+1", many) + "/0", api.ErrZero},
		{"1" + strings.Repeat("+1", many) + "+bad", api.ErrArith},
		{"1/0" + strings.Repeat("+1", many), api.ErrZero},
		{strings.Repeat("1", many), api.ErrArith},
		{"0x" + strings.Repeat("f", many), api.ErrArith},
		{strings.Repeat("1 ", many), api.ErrArith},
		{strings.Repeat("a ", many), api.ErrArith},
		{strings.Repeat(")", many), api.ErrArith},
		{strings.Repeat("?", many), api.ErrArith},
		{strings.Repeat("$", many), api.ErrArith},
	})
}

// TestManyOpenings has more levels than a stack would hold if each one were followed.
func TestManyOpenings(t *testing.T) {
	shortStack(t)
	for _, opening := range []string{"(", "-", "!", "a=", "a+=", "1?", "1?2:", "1+(", "-(", "1||(", "a=1?"} {
		checkError(t, "M3", strings.Repeat(opening, many), api.ErrLong)
		checkError(t, "M3", strings.Repeat(opening, many)+"1", api.ErrLong)
	}
	checkError(t, "M3", strings.Repeat("(", many)+"1"+strings.Repeat(")", many), api.ErrLong)
	checkError(t, "M3", strings.Repeat("1?", many)+"1"+strings.Repeat(":1", many), api.ErrLong)
}

// TestLongNames has names and Values of many bytes.
func TestLongNames(t *testing.T) {
	shortStack(t)
	long := strings.Repeat("long_9", many)
	checkIn(t, "M3", long+" = 4", nil, 4, []api.Var{set(long, "4")})
	checkIn(t, "M3", long+" += "+long, []api.Var{set(long, "0x"+strings.Repeat("0", many)+"8")}, 16, []api.Var{set(long, "16")})
	for _, value := range []string{long, strings.Repeat("9", many), "-" + strings.Repeat("7", many), strings.Repeat("-", many), strings.Repeat(" ", many)} {
		if n, m, e := evalIn(long, []api.Var{set(long, value)}); n != 0 || len(m) != 0 || e != api.ErrArith {
			t.Errorf("M2: Value of %d bytes, %.10q: %d and %d", len(value), value, n, e)
		}
	}
}

// TestManyVariables has many variables, and many assignments to a few.
func TestManyVariables(t *testing.T) {
	shortStack(t)
	l := make([]api.Var, many)
	for i := range l {
		l[i] = set("v"+string([]byte{byte('a' + i/17576%26), byte('a' + i/676%26), byte('a' + i/26%26), byte('a' + i%26)}), "1")
	}
	before := slices.Clone(l)
	n, m, e := arith.Eval("(vaaab = 5) + vzzzz + (w = 2) + vaaab", l)
	if n != 12 || e != api.OK || len(m) != many+1 || m[1].Value != "5" || m[many] != set("w", "2") || !slices.Equal(l, before) {
		t.Errorf("M3: %d with %d variables and %d", n, len(m), e)
	}
	checkIn(t, "M3", "0"+strings.Repeat("+(c=c+1)", 1000)+"-c", nil, 1000*1001/2-1000, []api.Var{set("c", "1000")})
}
