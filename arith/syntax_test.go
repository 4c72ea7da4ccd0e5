package arith_test

import (
	"testing"

	"scullion/api"
)

// binaries are the binary operators by their levels, and prefixes and setters the other operators that have an operand.
var (
	binaries = [][]string{{"||"}, {"&&"}, {"|"}, {"^"}, {"&"}, {"==", "!="}, {"<", "<=", ">", ">="}, {"<<", ">>"}, {"+", "-"}, {"*", "/", "%"}}
	prefixes = []string{"-", "+", "~", "!"}
	setters  = []string{"=", "+=", "-=", "*=", "/=", "%="}
)

// TestLongestOperator has operators without blanks behind one another.
func TestLongestOperator(t *testing.T) {
	checkValues(t, "M3", []valueCase{
		{"1<<2", 4}, {"1<-2", 0}, {"1<~2", 0}, {"1<!2", 0}, {"1<(2)", 1}, {"8>>1", 4}, {"8>>-63", 4}, {"3>-1", 1},
		{"1<=2", 1}, {"1>=2", 0}, {"1==1", 1}, {"1==-1", 0}, {"1==!0", 1}, {"1!=2", 1}, {"1!=!0", 0}, {"!1!=!0", 1},
		{"1&&2", 1}, {"1||2", 1}, {"1&-1", 1}, {"1&~1", 0}, {"1|-1", -1}, {"1^-1", -2}, {"1*-1", -1}, {"4/-2", -2}, {"5%-3", 2},
		{"1-+1", 0}, {"1+-1", 0}, {"1- -1", 2}, {"1?-1:+2", -1}, {"0?-1:~2", -3}, {"0?(1):(2)", 2}, {"a?r:neg", 3},
	})
	checkChanges(t, "M3", []changeCase{
		{"a=-1", -1, "a", "-1"}, {"a=+1", 1, "a", "1"}, {"a=!1", 0, "a", "0"}, {"a=~1", -2, "a", "-2"}, {"a=(1)", 1, "a", "1"},
		{"a+=-1", 4, "a", "4"}, {"a-=-1", 6, "a", "6"}, {"a*=-1", -5, "a", "-5"}, {"a/=-1", -5, "a", "-5"}, {"a%=-3", 2, "a", "2"}, {"a+=+1", 6, "a", "6"},
	})
	for _, s := range []string{
		"1< <2", "1> >2", "1< =2", "1> =2", "1= =1", "1! =1", "1& &1", "1| |1", "a+ =1", "a- =1", "a* =1", "a/ =1", "a% =1",
		"1<<=2", "a<<=1", "a>>=1", "a&=1", "a|=1", "a^=1", "a||=1", "a&&=1", "a===1", "a!==1", "a!=", "!=1", "a=!=1", "a==", "a=+=1", "a+=-=1", "a=*1", "a**2", "a^^1", "1<<<2", "1>>>2", "1<>2", "1&&&2", "1|||2", "1!!2", "1~2", "1!2", "a+==1", "a-==1", "a<==1", "a=>1", "a=<1", "a~=1", "a:=1", "a?=1",
	} {
		checkError(t, "M3", s, api.ErrArith)
	}
}

// TestPlaces has what may not stand where it stands.
func TestPlaces(t *testing.T) {
	for _, s := range []string{
		"(", ")", "()", "( )", "(1", "1)", "((1)", "(1))", ")1(", "(1)(2)", "(1) 2", "1 (2)", "a(1)", "a b", "a 1", "1 2", "1 a", "a - ", "- ", "!", "~", "1 +", "1 ||", "* 1", "/1", "%1", "&1", "|1", "^1", "<1", ">1", "== 1", "&& 1", "|| 1", "<< 1",
		"?", ":", "1 ?", "1 ? 2", "1 ? 2 :", "1 ? : 2", "? 1 : 2", "1 : 2", "1 ? 2 3", "1 ? 2 : 3 : 4", "1 ? 2 ? 3 : 4", "(1 ? 2) : 3", "1 ? (2 : 3)", "1 ? 2 : ", "1 ? ) : 2", ": 1", "1 ?? 2 : 3", "1 ? 2 :: 3",
		"=", "= 1", "a =", "a = = 1", "1 = 1", "1 += 1", "(a) = 1", "(a) += 1", "-a = 1", "!a = 1", "a + b = 1", "1 + a = 1", "1 && a = 1", "1 || a = 1", "a ? b : c = 1", "1 ? 2 : a = 3", "a = 1 + b = 2", "a = (b) = 1", "a b = 1", "a = ", "a = )", "(a =)", "a = 1 b", "0x1 = 1", "a = b +", "+= 1", "a += ",
		"1,2", "1;2", "1.5", "'1'", "\"1\"", "$a", "${a}", "$(a)", "`a`", "\\1", "#1", "a[1]", "[1]", "{1}", "@", "1 @ 2", "é", "aé", "1é", "é=1", "\x00", "1\x00", "\xff", "1\r", "\r1", "1\v+\v1", "1 \\\n+ 1",
	} {
		checkError(t, "M3", s, api.ErrArith)
	}
}

// TestAllBytes puts each byte before, behind and between operands.
func TestAllBytes(t *testing.T) {
	for c := range 256 {
		for _, s := range []string{string([]byte{byte(c)}), string([]byte{byte(c), '1'}), string([]byte{'1', byte(c)}), string([]byte{'1', byte(c), '1'}), string([]byte{'a', byte(c), '1'}), string([]byte{'1', ' ', byte(c), ' ', '1'})} {
			checkModel(t, s, []api.Var{set("a", "5")})
		}
	}
}

// TestAllOperators puts each operator, and each two, where each kind of operator may stand.
func TestAllOperators(t *testing.T) {
	operators := []string{"?", ":", "(", ")"}
	for _, level := range binaries {
		operators = append(operators, level...)
	}
	operators = append(append(operators, prefixes...), setters...)
	for _, first := range operators {
		for _, before := range []string{"", "1", "a", "(", "a ? b "} {
			for _, behind := range []string{"", "1", "a", "1 : 2", "1)"} {
				checkModel(t, before+first+behind, []api.Var{set("a", "5")})
				for _, second := range operators {
					checkModel(t, before+first+second+behind, []api.Var{set("a", "5")})
					checkModel(t, before+first+" "+second+behind, []api.Var{set("a", "5")})
				}
			}
		}
	}
}
