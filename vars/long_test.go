package vars_test

import (
	"runtime/debug"
	"strings"
	"testing"

	"scullion/api"
	"scullion/vars"
)

// many is a number of bytes that is too great for a call for each of them.
const many = 200000

func TestLongNames(t *testing.T) {
	room := debug.SetMaxStack(1 << 20)
	defer debug.SetMaxStack(room)
	long := strings.Repeat("a", many)
	for _, name := range []string{long, "_" + long + "0", strings.Repeat("_9Zz", many)} {
		got, f := vars.Set(list(plain("a", "1")), name, long)
		if v, found := vars.Get(got, name); f != api.OK || len(got) != 2 || !found || v != plain(name, long) {
			t.Errorf("L2: name of %d bytes: %d variables and %d", len(name), len(got), f)
		}
		got, f = vars.Mark(got, name, true, false)
		if env := vars.Environ(got); f != api.OK || len(env) != 1 || env[0] != name+"="+long {
			t.Errorf("L3, L5: name of %d bytes: %d variables, %d exported, and %d", len(name), len(got), len(env), f)
		}
		got, f = vars.Unset(got, name)
		checkList(t, "L4", "long name", got, f, list(plain("a", "1")))
	}
	for _, piece := range []string{"0", "${", "${a:-", "$(", "$((", "}", "{", "\"", "'", "\\", "`", "a}${", "a=", "#", "a-", "a${", "a:=", "(", ")", "é", "\x00"} {
		for _, name := range []string{strings.Repeat(piece, many), "a" + strings.Repeat(piece, many) + "%", "_" + strings.Repeat(piece, many) + strings.Repeat("}", many)} {
			got, f := vars.Set(nil, name, "")
			checkRefused(t, "L2", "long "+piece, got, f, api.ErrArg)
			got, f = vars.Mark(nil, name, false, false)
			checkRefused(t, "L3", "long "+piece, got, f, api.ErrArg)
		}
	}
}
