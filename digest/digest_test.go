package digest

import (
	"crypto/sha256"
	"encoding/hex"
	"strings"
	"testing"
)

// known are sums that FIPS 180-4, its published examples and the chapter give.
var known = []struct{ text, sum string }{
	{"", "e3b0c44298fc1c149afbf4c8996fb92427ae41e4649b934ca495991b7852b855"},
	{"a", "ca978112ca1bbdcafac231b39a23dc4da786eff8147c4e72b9807785afee48bb"},
	{"abc", "ba7816bf8f01cfea414140de5dae2223b00361a396177a9cb410ff61f20015ad"},
	{"abcdbcdecdefdefgefghfghighijhijkijkljklmklmnlmnomnopnopq", "248d6a61d20638b8e5c026930c3e6039a33ce45964ff2167f6ecedd419db06c1"},
	{"abcdefghbcdefghicdefghijdefghijkefghijklfghijklmghijklmnhijklmnoijklmnopjklmnopqklmnopqrlmnopqrsmnopqrstnopqrstu", "cf5b16a778af8380036ce59e7b0492370b249b11e8f07a51afac45037afee9d1"},
}

// reference is the checksum as the library computes it.
func reference(s string) string {
	sum := sha256.Sum256([]byte(s))
	return hex.EncodeToString(sum[:])
}

// varied is a text of n bytes in which neighbours and blocks differ.
func varied(n int) string {
	b := make([]byte, n)
	for i := range b {
		b[i] = byte(i*i*7 + i*13 + i>>8 + n)
	}
	return string(b)
}

// aboutBlocks are texts of every length up to five blocks and of lengths about the end of a later one.
func aboutBlocks() []string {
	var l []string
	for n := range 5*64 + 2 {
		l = append(l, varied(n), strings.Repeat("\x00", n), strings.Repeat("\xff", n))
	}
	for _, end := range []int{1 << 10, 1 << 13, 1 << 16, 100000} {
		for d := -10; d <= 10; d++ {
			l = append(l, varied(end+d))
		}
	}
	return l
}

func check(t *testing.T, s string) {
	t.Helper()
	if got, want := Sum(s), reference(s); got != want {
		t.Errorf("A1: %d bytes, %.70q: %s, want %s", len(s), s, got, want)
	}
}

func TestKnownSums(t *testing.T) {
	for _, k := range known {
		if got := Sum(k.text); got != k.sum {
			t.Errorf("A1: %q: %s, want %s", k.text, got, k.sum)
		}
	}
}

func TestLengthsAboutABlocksEnd(t *testing.T) {
	for _, s := range aboutBlocks() {
		check(t, s)
	}
}

func TestBytesOfEveryValue(t *testing.T) {
	var all []byte
	for c := range 256 {
		all = append(all, byte(c))
		check(t, string([]byte{byte(c)}))
		check(t, "x"+string([]byte{byte(c)})+"y")
		check(t, strings.Repeat(string([]byte{byte(c)}), 64))
	}
	check(t, string(all))
	for i := range 64 {
		check(t, string(all[i:])+string(all[:i]))
		check(t, strings.Repeat("\x00", i)+"\x80"+strings.Repeat("\x00", 63-i))
	}
}

func TestLongTexts(t *testing.T) {
	if got := Sum(strings.Repeat("a", 1000000)); got != "cdc76e5c9914fb9281a1c7e284d73e67f1809a48a497200e046d39ccc7112cd0" {
		t.Errorf("A1: a million times a: %s", got)
	}
	check(t, varied(1<<21+5)) // its length in bits takes four bytes
}

// The length in bits takes more than four bytes in texts that are too long for a test of Sum.
func TestEndingTellsTheLength(t *testing.T) {
	for _, c := range []struct {
		length int
		want   string
	}{
		{0, "\x00\x00\x00\x00\x00\x00\x00\x00"},
		{1, "\x00\x00\x00\x00\x00\x00\x00\x08"},
		{31, "\x00\x00\x00\x00\x00\x00\x00\xf8"},
		{32, "\x00\x00\x00\x00\x00\x00\x01\x00"},
		{1<<29 - 1, "\x00\x00\x00\x00\xff\xff\xff\xf8"},
		{1 << 29, "\x00\x00\x00\x01\x00\x00\x00\x00"},
		{1<<31 - 1, "\x00\x00\x00\x03\xff\xff\xff\xf8"},
		{0x0123456789abcdef, "\x09\x1a\x2b\x3c\x4d\x5e\x6f\x78"},
	} {
		rest := varied(c.length % 64)
		got := ending(rest, c.length)
		if !strings.HasSuffix(got, c.want) {
			t.Errorf("A1: the length %d: %x, want %x", c.length, got[len(got)-8:], c.want)
		}
	}
}

func TestEndingIsAsShortAsItCanBe(t *testing.T) {
	for n := range 64 {
		rest := varied(n)
		got := ending(rest, n)
		size := 64
		if n > 55 { // the byte 128 and the length leave no room for more
			size = 128
		}
		if len(got) != size {
			t.Errorf("A1: %d bytes are padded to %d, want %d", n, len(got), size)
		} else if zeros := strings.Repeat("\x00", size-n-9); got[:size-8] != rest+"\x80"+zeros {
			t.Errorf("A1: %d bytes are padded to %x", n, got)
		}
	}
}

func TestSumsHave64Digits(t *testing.T) {
	l := aboutBlocks()
	for n := range 2000 { // leading zeros of a word must not be lost
		l = append(l, strings.Repeat("z", n%50)+string([]byte{byte(n), byte(n >> 8)}))
	}
	for _, s := range l {
		got := Sum(s)
		if len(got) != 64 || strings.Trim(got, "0123456789abcdef") != "" {
			t.Errorf("A2: %d bytes, %.70q: %q", len(s), s, got)
		}
	}
}

func TestSumsDependOnTheTextAlone(t *testing.T) {
	long := varied(300)
	for i := 0; i < 300; i += 7 {
		first := Sum(long[:i])
		Sum(long[i:])
		if again := Sum(strings.Clone(long[:i])); again != first {
			t.Errorf("R4: %d bytes: %s, then %s", i, first, again)
		}
	}
}
