package device

import (
	"math"
	"strings"
	"testing"

	"scullion/api"
)

// zeros returns n zero bytes.
func zeros(n int) string { return strings.Repeat("\x00", n) }

// padded returns s with zero bytes after it up to the end of a sector.
func padded(s string) string { return s + zeros(64-len(s)) }

// letters returns n bytes, no two neighbours of which are equal and none of which is zero.
func letters(n int, from byte) string {
	b := make([]byte, n)
	for i := range b {
		b[i] = from + byte(i%23)
	}
	return string(b)
}

// made returns a new device of n sectors.
func made(t *testing.T, n int) *Device {
	t.Helper()
	d, err := New(n)
	if err != api.OK || d == nil {
		t.Fatalf("C1: New(%d) returned %v and %d, want a device", n, d, err)
	}
	return d
}

// contents returns all sectors of d.
func contents(t *testing.T, d *Device) []string {
	t.Helper()
	var l []string
	for k := range d.Size() {
		s, err := d.Read(k)
		if err != api.OK {
			t.Fatalf("C2: Read(%d) of %d sectors returned %d", k, d.Size(), err)
		}
		l = append(l, s)
	}
	return l
}

// checkRead fails if the sector k of d is not want.
func checkRead(t *testing.T, promise string, d *Device, k int, want string) {
	t.Helper()
	got, err := d.Read(k)
	if got != want || err != api.OK {
		t.Fatalf("%s: Read(%d) returned %q and %d, want %q", promise, k, got, err, want)
	}
}

// checkWrite fails if the write does not return want.
func checkWrite(t *testing.T, promise string, d *Device, k int, s string, want api.Errno) {
	t.Helper()
	if err := d.Write(k, s); err != want {
		t.Fatalf("%s: Write(%d, %q) returned %d, want %d", promise, k, s, err, want)
	}
}

// mixed returns the bytes of fresh whose bits in mask are 1, and those of old elsewhere.
func mixed(old, fresh string, mask uint64) string {
	var b strings.Builder
	value := uint64(1) // 2^i
	for i := range 64 {
		if mask&value != 0 {
			b.WriteByte(fresh[i])
		} else {
			b.WriteByte(old[i])
		}
		value *= 2
	}
	return b.String()
}

func TestNewTakesSizes(t *testing.T) {
	for _, n := range []int{1, 2, 3, 64, 100, 4095, 4096} {
		d := made(t, n)
		if d.Size() != n {
			t.Errorf("C1: Size() after New(%d) is %d", n, d.Size())
		}
	}
}

func TestNewRefusesSizes(t *testing.T) {
	for _, n := range []int{0, -1, -2, -4096, 4097, 4098, 8192, 1 << 32, 1<<32 + 1, math.MaxInt, math.MinInt, math.MinInt + 1} {
		d, err := New(n)
		if d != nil || err != api.ErrArg {
			t.Errorf("C1: New(%d) returned %v and %d, want nil and ErrArg", n, d, err)
		}
	}
}

func TestSizeStays(t *testing.T) {
	d := made(t, 3)
	d.Write(2, "a")
	d.Write(3, "a")
	d.Limit(0, math.MaxUint64)
	d.Write(1, "b")
	if d.Size() != 3 {
		t.Errorf("C1: Size() without power is %d, want 3", d.Size())
	}
	d.Restart()
	if d.Size() != 3 {
		t.Errorf("C1: Size() after Restart is %d, want 3", d.Size())
	}
}

func TestNewSectorsAreZero(t *testing.T) {
	for _, n := range []int{1, 2, 4096} {
		for k, s := range contents(t, made(t, n)) {
			if s != zeros(64) {
				t.Fatalf("C1: sector %d of %d new ones is %q, want 64 zero bytes", k, n, s)
			}
		}
	}
}

func TestDevicesAreApart(t *testing.T) {
	a, b := made(t, 2), made(t, 2)
	checkWrite(t, "C3", a, 0, "a", api.OK)
	a.Limit(0, 1)
	checkWrite(t, "C4", b, 1, "b", api.OK)
	checkRead(t, "C1", a, 0, padded("a"))
	checkRead(t, "C1", a, 1, zeros(64))
	checkRead(t, "C1", b, 0, zeros(64))
	checkRead(t, "C1", b, 1, padded("b"))
}

// absent are numbers of sectors that a device of n sectors does not have.
func absent(n int) []int {
	return []int{-1, -2, -n, n, n + 1, 2 * n, 1 << 32, -1 << 32, math.MaxInt, math.MinInt}
}

func TestReadRefusesAbsentSectors(t *testing.T) {
	for _, n := range []int{1, 2, 4096} {
		d := made(t, n)
		for _, k := range absent(n) {
			if s, err := d.Read(k); s != "" || err != api.ErrArg {
				t.Errorf("C2: Read(%d) of %d sectors returned %q and %d, want ErrArg", k, n, s, err)
			}
		}
	}
}

func TestReadWithoutPower(t *testing.T) {
	d := made(t, 2)
	checkWrite(t, "C3", d, 1, "abc", api.OK)
	d.Limit(0, math.MaxUint64)
	checkRead(t, "C2", d, 1, padded("abc"))
	checkRead(t, "C2", d, 0, zeros(64))
	if s, err := d.Read(2); s != "" || err != api.ErrArg {
		t.Errorf("C2: Read(2) of 2 sectors without power returned %q and %d, want ErrArg", s, err)
	}
}

func TestReadTextStays(t *testing.T) {
	d := made(t, 1)
	checkWrite(t, "C3", d, 0, "abc", api.OK)
	s, _ := d.Read(0)
	checkWrite(t, "C3", d, 0, "xyz", api.OK)
	if s != padded("abc") {
		t.Errorf("C2: what Read returned became %q with a later write", s)
	}
}

func TestWriteFillsSector(t *testing.T) {
	for _, n := range []int{1, 2, 5, 4096} {
		for _, k := range []int{0, n / 2, n - 1} {
			for _, length := range []int{0, 1, 2, 31, 32, 62, 63, 64} {
				d := made(t, n)
				checkWrite(t, "C3", d, k, letters(64, 'A'), api.OK)
				text := letters(length, 'a')
				checkWrite(t, "C3", d, k, text, api.OK)
				checkRead(t, "C3", d, k, padded(text))
			}
		}
	}
}

func TestWriteTakesEveryByte(t *testing.T) {
	d := made(t, 4)
	for k := range 4 {
		b := make([]byte, 64)
		for i := range b {
			b[i] = byte(64*k + i)
		}
		checkWrite(t, "C3", d, k, string(b), api.OK)
		checkRead(t, "C3", d, k, string(b))
	}
	text := zeros(3) + "\xff\xc3\x28" + zeros(2) + "é"
	checkWrite(t, "C3", d, 0, text, api.OK)
	checkRead(t, "C3", d, 0, padded(text))
}

func TestWriteRefuses(t *testing.T) {
	for _, n := range []int{1, 2, 4096} {
		d := made(t, n)
		checkWrite(t, "C3", d, n-1, letters(64, 'a'), api.OK)
		for _, length := range []int{0, 1, 64, 65} {
			for _, k := range absent(n) {
				checkWrite(t, "C3", d, k, letters(length, 'k'), api.ErrArg)
			}
		}
		for _, length := range []int{65, 66, 128, 100000} {
			checkWrite(t, "C3", d, n-1, letters(length, 'k'), api.ErrArg)
			checkWrite(t, "C3", d, n-1, zeros(length), api.ErrArg)
		}
		checkRead(t, "C3", d, n-1, letters(64, 'a'))
	}
}

func TestRefusedWriteTakesNoPower(t *testing.T) {
	d := made(t, 2)
	d.Limit(1, 0b10)
	checkWrite(t, "C3", d, 2, "k", api.ErrArg)
	checkWrite(t, "C3", d, -1, "k", api.ErrArg)
	checkWrite(t, "C3", d, 0, letters(65, 'k'), api.ErrArg)
	checkWrite(t, "C3", d, 0, "abc", api.OK)
	// Without power a refused write is not torn either, and leaves the mask.
	checkWrite(t, "C3", d, 2, "k", api.ErrArg)
	checkWrite(t, "C3", d, -1, "k", api.ErrArg)
	checkWrite(t, "C3", d, 0, letters(65, 'k'), api.ErrArg)
	checkRead(t, "C3", d, 0, padded("abc"))
	checkWrite(t, "C3", d, 0, "xyz", api.ErrDead)
	checkRead(t, "C3", d, 0, padded("ayc"))
	checkWrite(t, "C3", d, 2, "k", api.ErrArg)
	checkWrite(t, "C3", d, 0, letters(65, 'k'), api.ErrArg)
}

func TestPowerIsUnlimitedAtFirst(t *testing.T) {
	d := made(t, 3)
	for i := range 10000 {
		checkWrite(t, "C3", d, i%3, letters(i%65, 'a'), api.OK)
	}
}

func TestPowerLastsForWrites(t *testing.T) {
	for _, n := range []int{0, 1, 2, 3, 7, 100} {
		d := made(t, 2)
		d.Limit(n, 1)
		for i := range n {
			text := letters(i%65, 'a')
			checkWrite(t, "C3", d, i%2, text, api.OK)
			checkRead(t, "C3", d, i%2, padded(text))
		}
		checkWrite(t, "C3", d, 0, "torn", api.ErrDead)
		for range 3 {
			checkWrite(t, "C3", d, 1, "late", api.ErrDead)
		}
	}
}

func TestEachWriteTakesPower(t *testing.T) {
	d := made(t, 1)
	checkWrite(t, "C3", d, 0, "same", api.OK)
	d.Limit(3, 0)
	// A write that changes nothing takes power, a read does not.
	checkWrite(t, "C3", d, 0, "same", api.OK)
	checkRead(t, "C2", d, 0, padded("same"))
	d.Size()
	checkWrite(t, "C3", d, 0, "same", api.OK)
	checkWrite(t, "C3", d, 0, "", api.OK)
	checkWrite(t, "C3", d, 0, "", api.ErrDead)
}

func TestPowerBelowZeroIsNone(t *testing.T) {
	for _, n := range []int{-1, -2, -4096, math.MinInt} {
		d := made(t, 1)
		checkWrite(t, "C3", d, 0, "abc", api.OK)
		d.Limit(n, 0b100)
		checkWrite(t, "C4", d, 0, "xyz", api.ErrDead)
		checkRead(t, "C4", d, 0, padded("abz"))
		checkWrite(t, "C4", d, 0, "xyz", api.ErrDead)
		checkRead(t, "C4", d, 0, padded("abz"))
	}
}

func TestPowerForMostWrites(t *testing.T) {
	d := made(t, 1)
	d.Limit(math.MaxInt, 0)
	for i := range 1000 {
		checkWrite(t, "C4", d, 0, letters(i%65, 'a'), api.OK)
	}
}

// masks are all masks of a single bit, of all bits but one, and some others.
func masks() []uint64 {
	l := []uint64{0, math.MaxUint64, 0x5555555555555555, 0xaaaaaaaaaaaaaaaa, 0xffffffff, 0xffffffff00000000, 0x8000000000000001, 0x0123456789abcdef}
	for i := range 64 {
		l = append(l, 1<<i, ^uint64(1<<i), 1<<i-1)
	}
	return l
}

func TestTornWriteFollowsMask(t *testing.T) {
	for _, mask := range masks() {
		for _, length := range []int{0, 1, 32, 63, 64} {
			d := made(t, 3)
			old, fresh := letters(64, 'A'), letters(length, 'a')
			checkWrite(t, "C3", d, 1, old, api.OK)
			d.Limit(0, mask)
			checkWrite(t, "C3", d, 1, fresh, api.ErrDead)
			checkRead(t, "C3", d, 1, mixed(old, padded(fresh), mask))
			checkRead(t, "C5", d, 0, zeros(64))
			checkRead(t, "C5", d, 2, zeros(64))
		}
	}
}

func TestTornWriteBySingleBits(t *testing.T) {
	old, fresh := letters(64, 'A'), letters(64, 'a')
	for i := range 64 {
		d := made(t, 1)
		checkWrite(t, "C3", d, 0, old, api.OK)
		d.Limit(0, 1<<i)
		checkWrite(t, "C3", d, 0, fresh, api.ErrDead)
		checkRead(t, "C3", d, 0, old[:i]+fresh[i:i+1]+old[i+1:])
	}
}

func TestTornWriteOfNoneAndAll(t *testing.T) {
	old, fresh := letters(64, 'A'), letters(10, 'a')
	d := made(t, 1)
	checkWrite(t, "C3", d, 0, old, api.OK)
	d.Limit(0, 0)
	checkWrite(t, "C3", d, 0, fresh, api.ErrDead)
	checkRead(t, "C3", d, 0, old)
	d.Limit(0, math.MaxUint64)
	checkWrite(t, "C3", d, 0, fresh, api.ErrDead)
	checkRead(t, "C3", d, 0, padded(fresh))
}

func TestTornWriteOfTooLongTextIsRefused(t *testing.T) {
	d := made(t, 1)
	checkWrite(t, "C3", d, 0, "abc", api.OK)
	d.Limit(0, math.MaxUint64)
	checkWrite(t, "C3", d, 0, letters(65, 'k'), api.ErrArg)
	checkRead(t, "C3", d, 0, padded("abc"))
}

func TestWritesBehindTornOne(t *testing.T) {
	for _, mask := range []uint64{0, 1, 0b11, 1 << 63, math.MaxUint64} {
		d := made(t, 3)
		for k := range 3 {
			checkWrite(t, "C3", d, k, letters(64, 'A'), api.OK)
		}
		d.Limit(0, mask)
		checkWrite(t, "C3", d, 1, letters(64, 'a'), api.ErrDead)
		want := contents(t, d)
		for i := range 20 {
			checkWrite(t, "C3", d, i%3, letters(i, 'q'), api.ErrDead)
			for k, s := range contents(t, d) {
				if s != want[k] {
					t.Fatalf("C5: sector %d became %q with a write behind the torn one, was %q", k, s, want[k])
				}
			}
		}
	}
}

func TestRestartGivesPower(t *testing.T) {
	d := made(t, 2)
	d.Limit(1, math.MaxUint64)
	checkWrite(t, "C4", d, 0, "a", api.OK)
	checkWrite(t, "C4", d, 1, "b", api.ErrDead)
	checkWrite(t, "C4", d, 0, "c", api.ErrDead)
	d.Restart()
	checkRead(t, "C4", d, 0, padded("a"))
	checkRead(t, "C4", d, 1, padded("b"))
	for i := range 1000 {
		text := letters(i%65, 'a')
		checkWrite(t, "C4", d, i%2, text, api.OK)
		checkRead(t, "C4", d, i%2, padded(text))
	}
}

func TestRestartBeforePowerIsLost(t *testing.T) {
	d := made(t, 1)
	d.Restart()
	checkWrite(t, "C4", d, 0, "a", api.OK)
	d.Limit(2, 1)
	checkWrite(t, "C4", d, 0, "b", api.OK)
	d.Restart()
	for range 5 {
		checkWrite(t, "C4", d, 0, "c", api.OK)
	}
	checkRead(t, "C4", d, 0, padded("c"))
	d.Limit(0, 1)
	d.Restart()
	checkWrite(t, "C4", d, 0, "d", api.OK)
}

func TestLimitReplacesLimit(t *testing.T) {
	d := made(t, 1)
	d.Limit(5, 0b1)
	d.Limit(1, 0b10)
	checkWrite(t, "C4", d, 0, "abc", api.OK)
	checkWrite(t, "C4", d, 0, "xyz", api.ErrDead)
	checkRead(t, "C4", d, 0, padded("ayc"))
	// Power comes back with a new limit, without a restart.
	d.Limit(2, 0b100)
	checkWrite(t, "C4", d, 0, "def", api.OK)
	checkWrite(t, "C4", d, 0, "ghi", api.OK)
	checkWrite(t, "C4", d, 0, "xyz", api.ErrDead)
	checkRead(t, "C4", d, 0, padded("ghz"))
	// A torn write leaves no mask for a limit to come.
	d.Limit(0, 0)
	checkWrite(t, "C4", d, 0, "jkl", api.ErrDead)
	checkRead(t, "C4", d, 0, padded("ghz"))
}

func TestLimitAndRestartLeaveSectors(t *testing.T) {
	d := made(t, 3)
	for k := range 3 {
		checkWrite(t, "C3", d, k, letters(10*k+1, 'a'), api.OK)
	}
	for _, n := range []int{-1, 0, 1, 5} {
		d.Limit(n, math.MaxUint64)
		d.Restart()
		for k := range 3 {
			checkRead(t, "C4", d, k, padded(letters(10*k+1, 'a')))
		}
	}
}

func TestExample(t *testing.T) {
	d := made(t, 1)
	d.Limit(1, 1)
	checkWrite(t, "C3", d, 0, "ab", api.OK)
	checkWrite(t, "C3", d, 0, "cd", api.ErrDead)
	checkRead(t, "C3", d, 0, padded("cb"))
}

func TestWriteChangesNoOtherSector(t *testing.T) {
	const n = 8
	for k := range n {
		d := made(t, n)
		for other := range n {
			checkWrite(t, "C3", d, other, letters(64, 'A'+byte(other)), api.OK)
		}
		checkWrite(t, "C3", d, k, letters(40, 'm'), api.OK)
		for other := range n {
			want := letters(64, 'A'+byte(other))
			if other == k {
				want = padded(letters(40, 'm'))
			}
			checkRead(t, "C5", d, other, want)
		}
	}
}

// numbers returns a function that returns the same sequence of numbers in every run.
func numbers() func(below int) int {
	state := uint64(1)
	return func(below int) int {
		state = state*6364136223846793005 + 1442695040888963407
		return int(state>>33) % below
	}
}

// TestSequences holds a device against a list of texts, in long sequences of calls.
func TestSequences(t *testing.T) {
	const n = 5
	next := numbers()
	d := made(t, n)
	want := make([]string, n)
	for k := range want {
		want[k] = zeros(64)
	}
	unlimited, left, mask := true, 0, uint64(0)
	for range 20000 {
		switch next(10) {
		case 0:
			left = next(8) - 2
			mask = uint64(next(1<<31))<<33 ^ uint64(next(1<<31))
			unlimited = false
			d.Limit(left, mask)
		case 1:
			unlimited = true
			d.Restart()
		default:
			k, text := next(n+2)-1, letters(next(67), byte('a'+next(10)))
			code := api.OK
			if k < 0 || k >= n || len(text) > 64 {
				code = api.ErrArg
			} else if unlimited {
				want[k] = padded(text)
			} else if left > 0 {
				want[k] = padded(text)
				left--
			} else {
				want[k] = mixed(want[k], padded(text), mask)
				mask = 0
				code = api.ErrDead
			}
			checkWrite(t, "C3", d, k, text, code)
		}
		for k, s := range want {
			checkRead(t, "C5", d, k, s)
		}
	}
}
