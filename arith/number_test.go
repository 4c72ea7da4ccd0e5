package arith_test

import (
	"math"
	"strconv"
	"strings"
	"testing"

	"scullion/api"
)

// literals are texts that are number literals.
var literals = []valueCase{
	{"0", 0}, {"1", 1}, {"9", 9}, {"10", 10}, {"90", 90}, {"1234567890", 1234567890},
	{"00", 0}, {"000", 0}, {"01", 1}, {"07", 7}, {"010", 8}, {"0017", 15}, {"01234567", 342391},
	{"0x0", 0}, {"0X0", 0}, {"0x1", 1}, {"0x10", 16}, {"0X10", 16}, {"0x00f", 15}, {"0xabcdef", 0xabcdef}, {"0xABCDEF", 0xabcdef}, {"0XaBcDeF", 0xabcdef}, {"0x1234567890", 0x1234567890}, {"0x08", 8}, {"0xe1", 225}, {"0x0b1", 177},
	{"9223372036854775807", math.MaxInt}, {"9223372036854775806", math.MaxInt - 1},
	{"0777777777777777777777", math.MaxInt}, {"00777777777777777777777", math.MaxInt}, {"0777777777777777777776", math.MaxInt - 1},
	{"0x7fffffffffffffff", math.MaxInt}, {"0X7FFFFFFFFFFFFFFF", math.MaxInt}, {"0x0007fffffffffffffff", math.MaxInt}, {"0x7ffffffffffffffe", math.MaxInt - 1},
	{strings.Repeat("0", 1000), 0}, {strings.Repeat("0", 1000) + "7", 7}, {"0x" + strings.Repeat("0", 1000) + "7", 7},
}

// noLiterals are texts of letters, digits and `_` that are neither number literals nor names.
var noLiterals = []string{
	"08", "09", "018", "0a", "0_", "0_1", "00x1", "00X1", "0x", "0X", "0xg", "0xfg", "0x_1", "0x1_0", "0x1_", "0x0x1", "0xX", "0XX1", "0x1x", "0b1", "0B1", "0b0", "0o7", "0O7", "0e1", "1e1", "1_000", "1_", "1a", "9A", "12x", "2_2", "0l", "1l", "1u", "10L",
	"9223372036854775808", "9223372036854775809", "9300000000000000000", "10000000000000000000", "18446744073709551615", "18446744073709551616", "18446744073709551617", "99999999999999999999", "36893488147419103233",
	"01000000000000000000000", "01777777777777777777777", "02000000000000000000000", "02000000000000000000001", "0777777777777777777778",
	"0x8000000000000000", "0xffffffffffffffff", "0XFFFFFFFFFFFFFFFF", "0x10000000000000000", "0x10000000000000001", "0x00008000000000000000",
	"1" + strings.Repeat("0", 1000), "0" + strings.Repeat("1", 1000), "0x" + strings.Repeat("1", 1000), strings.Repeat("9", 1000),
}

func TestLiterals(t *testing.T) {
	checkValues(t, "M1", literals)
	for _, c := range literals {
		checkValue(t, "M1", "-"+c.s, -c.want)
		checkValue(t, "M1", " ( "+c.s+"\t) \n", c.want)
		checkValue(t, "M1", c.s+"&"+c.s, c.want)
	}
	for _, s := range noLiterals {
		for _, before := range []string{"", "-", " ", "(", "1+", "0 || ", "1 || ", "0 ? ", "a = ", "1 ? 1 : "} {
			checkError(t, "M1", before+s, api.ErrArith)
		}
	}
}

// TestShortLiterals has all texts of few bytes that begin with a digit.
func TestShortLiterals(t *testing.T) {
	extended("0189afgxXF_", 4, func(s string) {
		if s == "" || s[0] > '9' {
			return
		}
		if want, ok := modelLiteral(s); ok {
			checkValue(t, "M1", s, want)
		} else {
			checkError(t, "M1", s, api.ErrArith)
		}
	})
}

// TestVariables has variables with number literals, and with others.
func TestVariables(t *testing.T) {
	value := func(value string, want int) {
		t.Helper()
		l := with("v", value)
		checkIn(t, "M2", "v", l, want, l)
		checkIn(t, "M2", "(v)", l, want, l)
		checkIn(t, "M2", "-v", l, -want, l)
		checkIn(t, "M2", "v += 1", l, want+1, withIn(l, "v", strconv.Itoa(want+1)))
	}
	value("", 0)
	value("-0", 0)
	for _, c := range literals {
		value(c.s, c.want)
		value("-"+c.s, -c.want)
	}
}

// TestNoNumericValue has variables with Values that are no numbers.
func TestNoNumericValue(t *testing.T) {
	bad := []string{"-", "--1", "- 1", "+1", "+", "-+1", "+-1", " 1", "1 ", " ", "\n", "1\n", "-1 ", "a", "v", "x", "-a", "1+1", "(1)", "1.0", "1,2", "0x-1", "0x+1", "0-1", "0+7", "-0x-1", "-0x", "0x", "x1", "1-", "~0", "!0", "é", "１", "\x00", "1\x00", "inf", "nan", "0xé", "0é", "-9223372036854775808", "-0x8000000000000000", "-01000000000000000000000"}
	for _, no := range noLiterals {
		bad = append(bad, no, "-"+no)
	}
	for _, value := range bad {
		l := with("v", value)
		for _, s := range []string{"v", "-v", "v + 1", "1 || 0 && v | v", "v += 1", "v /= 0", "v ? 1 : 2", "v || 1"} {
			n, m, e := evalIn(s, l)
			if s == "1 || 0 && v | v" {
				if n != 1 || e != api.OK {
					t.Errorf("M3: %q with %q: %d and %d", s, value, n, e)
				}
			} else if n != 0 || len(m) != 0 || e != api.ErrArith {
				t.Errorf("M2: %q with %.50q: %d, %v and %d", s, value, n, m, e)
			}
		}
		checkIn(t, "M2", "v = 1", l, 1, with("v", "1"))
	}
}

// TestShortValues has variables with all Values of few bytes.
func TestShortValues(t *testing.T) {
	extended("-+018axXF_ ", 4, func(value string) {
		n, _, e := evalIn("v", []api.Var{set("v", value)})
		want, ok := modelValue(value)
		if n != want || (e == api.OK) != ok || !ok && e != api.ErrArith {
			t.Errorf("M2: %q: %d and %d, want %d and %t", value, n, e, want, ok)
		}
	})
}
