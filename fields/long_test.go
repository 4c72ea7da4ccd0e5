package fields_test

import (
	"runtime/debug"
	"strings"
	"testing"

	"scullion/api"
	"scullion/fields"
)

// many is a number of bytes, and of segments, that is too great for a call for each of them, and for going through all of them for each.
const many = 1000000

// shortStack leaves little room for calls while a test runs.
func shortStack(t *testing.T) {
	room := debug.SetMaxStack(1 << 20)
	t.Cleanup(func() { debug.SetMaxStack(room) })
}

// repeated returns segments many times.
func repeated(l ...api.Seg) []api.Seg {
	var all []api.Seg
	for range many {
		all = append(all, l...)
	}
	return all
}

// longCase is some segments, an ifs, and how many fields and bytes in them there are.
type longCase struct {
	l           []api.Seg
	ifs         string
	count, size int
}

func TestLongSegments(t *testing.T) {
	shortStack(t)
	a := strings.Repeat("a", many)
	for i, c := range []longCase{
		{segs(split(a)), " ", 1, many},
		{segs(split(a)), "a", many, 0},
		{segs(split(a)), a, many, 0},
		{segs(split(a)), strings.Repeat("b", many), 1, many},
		{segs(split(strings.Repeat("a ", many))), " ", many, many},
		{segs(split(strings.Repeat(" ", many))), " ", 0, 0},
		{segs(split(strings.Repeat(`\`, many))), " ", 1, 2 * many},
		{segs(split("a" + strings.Repeat(" ", many) + ":" + strings.Repeat(":", many))), ": ", many + 1, 1},
		{segs(plain(a), literal(a), split(a)), " ", 1, 4 * many},
		{repeated(split("a")), " ", 1, many},
		{repeated(plain("a")), " ", 1, many},
		{repeated(literal("a")), " ", 1, 2 * many},
		{repeated(literal("")), " ", 1, 0},
		{repeated(stop()), " ", 0, 0},
		{repeated(literal(""), stop()), " ", many, 0},
		{repeated(split("a"), stop()), " ", many, many},
		{repeated(split(":")), ":", many, 0},
		{repeated(split(" ")), " ", 0, 0},
		{repeated(split("")), " ", 0, 0},
		{repeated(api.Seg{Kind: 9, Text: "a"}), " ", 0, 0},
	} {
		got := fields.Fields(c.l, c.ifs)
		if size := len(strings.Join(got, "")); len(got) != c.count || size != c.size {
			t.Errorf("N1: long case %d: %d fields with %d bytes", i, len(got), size)
		}
	}
}

func TestLongJoined(t *testing.T) {
	shortStack(t)
	for i, c := range []longCase{
		{segs(plain(strings.Repeat(`\`, many))), "", many, 2 * many},
		{repeated(plain("a")), "", many, many},
		{repeated(literal("a")), "", many, 2 * many},
		{repeated(stop(), split("ab")), "", 3 * many, 3 * many},
	} {
		if text, p := fields.Joined(c.l, false), fields.Joined(c.l, true); len(text) != c.count || len(p) != c.size {
			t.Errorf("N2: long case %d: %d and %d bytes", i, len(text), len(p))
		}
	}
}
