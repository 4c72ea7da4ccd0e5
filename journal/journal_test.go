package journal

import (
	"crypto/sha256"
	"encoding/hex"
	"fmt"
	"math"
	"slices"
	"strconv"
	"strings"
	"testing"

	"scullion/api"
	"scullion/device"
)

// zeros returns n zero bytes.
func zeros(n int) string { return strings.Repeat("\x00", n) }

// padded returns s with zero bytes after it up to the end of a sector.
func padded(s string) string { return s + zeros(64-len(s)) }

// letters returns n bytes, no two neighbours of which are equal and none of which is zero.
func letters(n int, from byte) string {
	b := make([]byte, n)
	for i := range b {
		b[i] = from + byte(i%23)
	}
	return string(b)
}

// headOf returns the head of a record, without the zero bytes after it.
func headOf(mark string, number int, text string) string {
	sum := sha256.Sum256([]byte(text))
	n, length := strconv.Itoa(number), strconv.Itoa(len(text))
	return fmt.Sprintf("%s%d:%s,%d:%s,16:%s,", mark, len(n), n, len(length), length, hex.EncodeToString(sum[:])[:16])
}

// sectorsFor returns the sectors of a record.
func sectorsFor(number int, text string) []string {
	l := []string{padded(headOf("1", number, text))}
	for text != "" {
		n := min(64, len(text))
		l = append(l, padded(text[:n]))
		text = text[n:]
	}
	return l
}

// a write is a sector and what is written into it.
type write struct {
	sector int
	text   string
}

// writesFor returns the writes that append a record to size sectors from the sector next on.
func writesFor(size, next, number int, text string) []write {
	var l []write
	sectors := sectorsFor(number, text)
	if next+len(sectors) < size {
		l = append(l, write{next + len(sectors), ""})
	}
	l = append(l, write{next, headOf("0", number, text)})
	for i, s := range sectors[1:] {
		l = append(l, write{next + 1 + i, s})
	}
	return append(l, write{next, headOf("1", number, text)})
}

// after returns what sectors become by power for n writes with a mask behind them.
func after(sectors []string, l []write, n int, mask uint64) []string {
	got := slices.Clone(sectors)
	for i, w := range l {
		if i < n {
			got[w.sector] = padded(w.text)
		} else if i == n {
			got[w.sector] = mixed(got[w.sector], padded(w.text), mask)
		}
	}
	return got
}

// mixed returns the bytes of fresh whose bits in mask are 1, and those of old elsewhere.
func mixed(old, fresh string, mask uint64) string {
	b := []byte(old)
	for i := range b {
		if mask>>i&1 == 1 {
			b[i] = fresh[i]
		}
	}
	return string(b)
}

// made returns a new device of n sectors that begin with the given ones.
func made(t *testing.T, n int, sectors ...string) *device.Device {
	t.Helper()
	d, err := device.New(n)
	if err != api.OK {
		t.Fatalf("a device of %d sectors: error %d", n, err)
	}
	for k, s := range sectors {
		if err := d.Write(k, s); err != api.OK {
			t.Fatalf("sector %d of %d: error %d", k, n, err)
		}
	}
	return d
}

// littered returns a device of n sectors on which no record and hardly a zero byte stands.
func littered(t *testing.T, n int) *device.Device {
	t.Helper()
	d := made(t, n)
	for k := range n {
		d.Write(k, letters(64, 'A'+byte(k%20)))
	}
	return d
}

// contents returns all sectors of d.
func contents(d *device.Device) []string {
	var l []string
	for k := range d.Size() {
		s, _ := d.Read(k)
		l = append(l, s)
	}
	return l
}

// short returns l in a form that can be told.
func short(l []string) string {
	var b strings.Builder
	for _, s := range l {
		fmt.Fprintf(&b, "%d bytes %.80q; ", len(s), s)
	}
	return b.String()
}

// checkRecords fails if the records of j are not want.
func checkRecords(t *testing.T, what string, j *Journal, want ...string) {
	t.Helper()
	if got := j.Records(); !slices.Equal(got, want) {
		t.Fatalf("%s: the records are %s want %s", what, short(got), short(want))
	}
}

// checkOpen fails if the records that are stored on d are not want.
func checkOpen(t *testing.T, what string, d *device.Device, want ...string) *Journal {
	t.Helper()
	j := Open(d)
	checkRecords(t, what, j, want...)
	return j
}

// checkAppend fails if Append(s) does not return want.
func checkAppend(t *testing.T, what string, j *Journal, s string, want api.Errno) {
	t.Helper()
	if err := j.Append(s); err != want {
		t.Fatalf("%s: Append of %d bytes returned %d, want %d", what, len(s), err, want)
	}
}

// checkContents fails if the sectors of d are not want.
func checkContents(t *testing.T, what string, d *device.Device, want []string) {
	t.Helper()
	for k, s := range contents(d) {
		if s != want[k] {
			t.Fatalf("%s: sector %d of %d is %q, want %q", what, k, d.Size(), s, want[k])
		}
	}
}

// lengths are those of records at the ends of sectors, and of the greatest one.
func lengths() []int {
	return []int{0, 1, 2, 62, 63, 64, 65, 66, 127, 128, 129, 1000, api.MaxRecord - 1, api.MaxRecord}
}

// masks are those of no byte, of each single byte, of all bytes, and some others.
func masks() []uint64 {
	l := []uint64{0, math.MaxUint64, math.MaxUint64 - 1, 0x5555555555555555, 0xaaaaaaaaaaaaaaaa, 0xffffffff, 0xffffffff00000000, 0x0123456789abcdef}
	for i := range 64 {
		l = append(l, 1<<i)
	}
	return l
}

func TestOpenNewDevice(t *testing.T) {
	for _, n := range []int{1, 2, 3, 4096} {
		d := made(t, n)
		checkOpen(t, "D1", d)
		checkContents(t, "D1", d, slices.Repeat([]string{zeros(64)}, n))
	}
}

func TestExample(t *testing.T) {
	d := made(t, 8)
	j := Open(d)
	checkAppend(t, "D3", j, "a", api.OK)
	want := slices.Repeat([]string{zeros(64)}, 8)
	want[0], want[1] = padded("11:0,1:1,16:ca978112ca1bbdca,"), padded("a")
	checkContents(t, "D3", d, want)
	checkRecords(t, "D2", j, "a")
	checkOpen(t, "D5", d, "a")
}

// TestOpenStored opens devices whose sectors were not written by a journal.
func TestOpenStored(t *testing.T) {
	for _, first := range lengths() {
		for _, second := range []int{0, 1, 64, 65} {
			texts := []string{letters(first, 'a'), letters(second, 'b'), ""}
			var l []string
			for i, s := range texts {
				l = append(l, sectorsFor(i, s)...)
			}
			checkOpen(t, "D1", made(t, len(l), l...), texts...)
			checkOpen(t, "D1", made(t, len(l)+1, l...), texts...)
			checkOpen(t, "D1", made(t, 4096, append(l, letters(64, 'x'))...), texts...)
		}
	}
}

func TestOpenTextsOfAnyBytes(t *testing.T) {
	all := make([]byte, 256)
	for i := range all {
		all[i] = byte(255 - i)
	}
	for _, s := range []string{zeros(1), zeros(64), zeros(65), "a" + zeros(70), zeros(70) + "a", string(all), "\xff\xfe", "é", "11:0,1:1,16:ca978112ca1bbdca,", sectorsFor(1, "")[0], sectorsFor(0, "")[0]} {
		d := made(t, 16, sectorsFor(0, s)...)
		j := checkOpen(t, "D1", d, s)
		checkAppend(t, "D3", j, s, api.OK)
		checkOpen(t, "D5", d, s, s)
	}
}

// TestOpenManyRecords fills the greatest device with records.
func TestOpenManyRecords(t *testing.T) {
	d := made(t, 4096)
	j := Open(d)
	var want []string
	used := 0
	for used < 4096 {
		s := ""
		if used < 1000 {
			s = letters(len(want)%70, 'a')
		}
		used += len(sectorsFor(len(want), s))
		checkAppend(t, "D3", j, s, api.OK)
		want = append(want, s)
	}
	checkAppend(t, "D3", j, "", api.ErrFull)
	checkRecords(t, "D2", j, want...)
	checkOpen(t, "D1", d, want...)
}

// TestOpenTakesZeroBytesAsText opens a device on which the zero bytes behind a shorter text belong to the text of the head.
func TestOpenTakesZeroBytesAsText(t *testing.T) {
	for _, n := range []int{0, 1, 62} {
		text := letters(1, 'a') + zeros(n)
		l := []string{headOf("1", 0, text), "a"}
		checkOpen(t, "D1", made(t, 5, append(l, sectorsFor(1, "next")...)...), text, "next")
	}
}

// sectorsUsed returns the number of sectors of all records of l.
func sectorsUsed(l []string) int {
	n := 0
	for i, s := range l {
		n += len(sectorsFor(i, s))
	}
	return n
}

func TestOpenIgnoresBytesBehindText(t *testing.T) {
	for _, n := range []int{1, 2, 63, 65, 66, 127} {
		text := letters(n, 'a')
		for _, litter := range []string{"x", zeros(1) + "x", letters(64, 'A')} {
			l := sectorsFor(0, text)
			last := len(l) - 1
			l[last] = (strings.TrimRight(l[last], "\x00") + litter + zeros(64))[:64]
			l = append(l, sectorsFor(1, "next")...)
			checkOpen(t, "D1", made(t, 9, l...), text, "next")
		}
	}
}

// falseHeads are sectors that resemble the head of the record 0 with the given text, and are none.
func falseHeads(text string) []string {
	head := headOf("1", 0, text)
	sum := head[len(head)-17 : len(head)-1]
	n := strconv.Itoa(len(text))
	length := strconv.Itoa(len(n)) + ":" + n + ","
	l := []string{
		zeros(64), "1", "0", ",", ":", letters(64, 'A'), strings.Repeat("1", 64), strings.Repeat("\xff", 64),
		head[1:], "1" + head, " " + head, head + head[1:], "\x00" + head,
		headOf("", 0, text), headOf("0", 0, text), headOf("2", 0, text), headOf("\x00", 0, text), headOf("\x31\x31", 0, text), headOf("\xb1", 0, text),
		headOf("1", 1, text), headOf("1", 2, text), headOf("1", -1, text), headOf("1", 10, text),
		headOf("1", 0, text+"a"), headOf("1", 0, "a"+text), headOf("1", 0, "other"),
		"10:," + length + "16:" + sum + ",", "12:00," + length + "16:" + sum + ",", "12:+0," + length + "16:" + sum + ",",
		"12:-0," + length + "16:" + sum + ",", "12: 0," + length + "16:" + sum + ",", "101:0," + length + "16:" + sum + ",",
		"1" + length + "16:" + sum + ",", "11:0,16:" + sum + ",", "11:0," + length, "11:0,",
		"1" + length + "1:0,16:" + sum + ",", "11:0,16:" + sum + "," + length, "11:0," + length + "0:,",
		"11:0," + length + "15:" + sum[:15] + ",", "11:0," + length + "17:" + sum + "0,", "11:0," + length + "15:" + sum[1:] + ",",
		head + "0:,", head + "1:0,", head + ",", head + "x", head + "\x00x", head + "1",
		head[:len(head)-1], head[:len(head)-1] + ";", head[:len(head)-1] + "\x00,",
		padded(head)[:63] + "x", padded(head)[:63] + "\x01", padded(head)[:62] + "\xff\x00",
	}
	for _, other := range []string{"", "0" + n, "00" + n, "+" + n, "-" + n, " " + n, n + " ", n + "0", "1" + n, "x", n + "x", "0x" + n, n + ".0", "-1", "1_0", "99999999999999999999", "9223372036854775807", "-9223372036854775808", "100001", "262144"} {
		if other != n {
			l = append(l, "11:0,"+strconv.Itoa(len(other))+":"+other+",16:"+sum+",")
		}
	}
	for i := range 16 {
		l = append(l, "11:0,"+length+"16:"+flipped(sum, i)+",")
	}
	if upper := strings.ToUpper(sum); upper != sum {
		l = append(l, "11:0,"+length+"16:"+upper+",")
	}
	for i := range 64 {
		l = append(l, flipped(padded(head), i))
	}
	return l
}

// flipped returns s with another byte at i.
func flipped(s string, i int) string {
	return s[:i] + string([]byte{s[i] ^ 1}) + s[i+1:]
}

// TestOpenRefusesFalseHeads opens devices that begin with no record, or have none behind the first.
func TestOpenRefusesFalseHeads(t *testing.T) {
	for _, n := range []int{0, 1, 10, 64, 65, 100} {
		text := letters(n, 'a')
		for _, head := range falseHeads(text) {
			if len(head) > 64 || padded(head) == sectorsFor(0, text)[0] {
				continue
			}
			l := append([]string{head}, sectorsFor(0, text)[1:]...)
			d := made(t, 20, append(l, sectorsFor(1, "next")...)...)
			j := Open(d)
			if got := j.Records(); len(got) != 0 {
				t.Fatalf("D1: behind the head %q are the records %s", head, short(got))
			}
			checkAppend(t, "D1", j, "b", api.OK)
			checkOpen(t, "D5", d, "b")
			if s, _ := d.Read(0); s != padded(headOf("1", 0, "b")) {
				t.Fatalf("D1: the record after the head %q does not start there", head)
			}
		}
	}
}

func TestOpenRefusesChangedText(t *testing.T) {
	for _, n := range []int{1, 63, 64, 65, 130} {
		text := letters(n, 'a')
		for i := range n {
			l := append(sectorsFor(0, "first"), sectorsFor(1, text)...)
			k := 3 + i/64
			l[k] = flipped(l[k], i%64)
			d := made(t, 8, append(l, sectorsFor(2, "third")...)...)
			j := checkOpen(t, "D1", d, "first")
			checkAppend(t, "D1", j, "", api.OK)
			if s, _ := d.Read(2); s != padded(headOf("1", 1, "")) {
				t.Fatalf("D1: the record in place of the changed one starts with %q", s)
			}
			checkOpen(t, "D1", d, "first", "")
		}
	}
}

func TestOpenEndsAtFirstFault(t *testing.T) {
	texts := []string{"zero", letters(70, 'a'), "", letters(64, 'b'), "four"}
	for fault := range texts {
		for _, wrong := range []string{headOf("0", fault, texts[fault]), headOf("1", fault+1, texts[fault]), headOf("1", 0, "x"), "", letters(64, 'A')} {
			var l []string
			for i, s := range texts {
				at := len(l)
				l = append(l, sectorsFor(i, s)...)
				if i == fault {
					l[at] = wrong
				}
			}
			d := made(t, 30, l...)
			j := checkOpen(t, "D1", d, texts[:fault]...)
			checkAppend(t, "D1", j, "mended", api.OK)
			checkOpen(t, "D5", d, append(slices.Clone(texts[:fault]), "mended")...)
		}
	}
}

// TestOpenTakesNumbersInOrder opens records that stand in another order than that of their numbers.
func TestOpenTakesNumbersInOrder(t *testing.T) {
	l := append(sectorsFor(0, "a"), sectorsFor(2, "c")...)
	checkOpen(t, "D1", made(t, 10, append(l, sectorsFor(1, "b")...)...), "a")
	l = append(sectorsFor(0, "a"), sectorsFor(0, "b")...)
	checkOpen(t, "D1", made(t, 10, l...), "a")
	l = append([]string{""}, sectorsFor(0, "a")...)
	checkOpen(t, "D1", made(t, 10, l...))
	l = append(append(sectorsFor(0, "a"), ""), sectorsFor(1, "b")...)
	checkOpen(t, "D1", made(t, 10, l...), "a")
	checkOpen(t, "D1", made(t, 10, sectorsFor(1, "b")...))
}

func TestOpenTakesLengths(t *testing.T) {
	text := letters(api.MaxRecord, 'a')
	checkOpen(t, "D1", made(t, 4096, sectorsFor(0, text)...), text)
	for _, more := range []int{1, 2, 64, 100000} {
		long := letters(api.MaxRecord+more, 'a')
		checkOpen(t, "D1", made(t, 4096, sectorsFor(0, long)...))
		l := append(sectorsFor(0, ""), sectorsFor(1, long)...)
		checkOpen(t, "D1", made(t, 4096, l...), "")
	}
}

func TestOpenRecordBehindDevice(t *testing.T) {
	for _, n := range []int{1, 64, 65, 128, 129, 1000} {
		text := letters(n, 'a')
		l := sectorsFor(0, text)
		checkOpen(t, "D1", made(t, len(l), l...), text)
		for size := 1; size < len(l); size++ {
			checkOpen(t, "D1", made(t, size, l[:size]...))
		}
		l = append(sectorsFor(0, "a"), sectorsFor(1, text)...)
		checkOpen(t, "D1", made(t, len(l), l...), "a", text)
		for size := 3; size < len(l); size++ {
			d := made(t, size, l[:size]...)
			j := checkOpen(t, "D1", d, "a")
			checkAppend(t, "D1", j, "", api.OK)
			checkOpen(t, "D1", d, "a", "")
		}
	}
	checkOpen(t, "D1", made(t, 1, headOf("1", 0, letters(api.MaxRecord, 'a'))))
}

// TestOpenOnlyReads opens without power, and with power that a write would take.
func TestOpenOnlyReads(t *testing.T) {
	for _, l := range [][]string{sectorsFor(0, "abc"), {headOf("0", 0, "abc"), "abc"}, {letters(64, 'A')}} {
		d := made(t, 6, l...)
		want := contents(d)
		d.Limit(0, math.MaxUint64)
		Open(d).Records()
		checkContents(t, "D1", d, want)
		d.Limit(1, 0)
		Open(d).Records()
		if err := d.Write(5, "x"); err != api.OK {
			t.Fatalf("D1: Open took power")
		}
	}
}

func TestRecordsAreNewMemory(t *testing.T) {
	d := made(t, 20)
	j := Open(d)
	for _, s := range []string{"a", "b", "c"} {
		checkAppend(t, "D3", j, s, api.OK)
	}
	got := j.Records()
	got[0] = "x"
	_ = append(got[:1], "y", "z")
	checkRecords(t, "D2", j, "a", "b", "c")
	before := j.Records()
	checkAppend(t, "D3", j, "d", api.OK)
	_ = append(before, "q")
	checkRecords(t, "D2", j, "a", "b", "c", "d")
	checkOpen(t, "D5", d, "a", "b", "c", "d")
	if !slices.Equal(before, []string{"a", "b", "c"}) {
		t.Fatalf("D2: what Records returned became %q with a later Append", before)
	}
}

func TestAppendLengths(t *testing.T) {
	for _, n := range lengths() {
		text := letters(n, 'a')
		d := littered(t, 4096)
		want := contents(d)
		j := Open(d)
		checkAppend(t, "D3", j, "before", api.OK)
		checkAppend(t, "D3", j, text, api.OK)
		checkAppend(t, "D3", j, "behind", api.OK)
		checkRecords(t, "D2", j, "before", text, "behind")
		checkOpen(t, "D5", d, "before", text, "behind")
		k := 0
		for i, s := range j.Records() {
			k += copy(want[k:], sectorsFor(i, s))
		}
		want[k] = zeros(64)
		checkContents(t, "D3", d, want)
	}
}

func TestAppendRefusesLong(t *testing.T) {
	for _, n := range []int{api.MaxRecord + 1, api.MaxRecord + 2, api.MaxRecord + 64, 2 * api.MaxRecord, 1 << 20} {
		// ErrLong is named before ErrFull, and both before a write without power.
		for _, size := range []int{1, 100, 4096} {
			d := littered(t, size)
			want := contents(d)
			j := Open(d)
			d.Limit(0, math.MaxUint64)
			checkAppend(t, "D3", j, letters(n, 'a'), api.ErrLong)
			checkAppend(t, "D3", j, zeros(n), api.ErrLong)
			checkContents(t, "D3", d, want)
			checkRecords(t, "D3", j)
		}
	}
}

// TestAppendNeedsSectors appends to devices that lack sectors, have just enough, and have more.
func TestAppendNeedsSectors(t *testing.T) {
	for _, n := range lengths() {
		text := letters(n, 'a')
		need := len(sectorsFor(0, text))
		for _, used := range [][]string{nil, {""}, {"a"}, {letters(65, 'b'), ""}} {
			first := sectorsUsed(used)
			for size := max(first+need-3, first, 1); size <= first+need+3; size++ {
				checkSize(t, size, used, text)
			}
		}
	}
}

// checkSize appends the records of used and then text to a device of the given size.
func checkSize(t *testing.T, size int, used []string, text string) {
	t.Helper()
	d := littered(t, size)
	j := Open(d)
	for _, s := range used {
		checkAppend(t, "D3", j, s, api.OK)
	}
	before := contents(d)
	all := append(slices.Clone(used), text)
	if sectorsUsed(all) > size {
		// ErrFull is returned before a write, which would find no power.
		d.Limit(0, math.MaxUint64)
		checkAppend(t, "D3", j, text, api.ErrFull)
		checkContents(t, "D3", d, before)
		checkRecords(t, "D3", j, used...)
		checkOpen(t, "D5", d, used...)
		return
	}
	l := writesFor(size, sectorsUsed(used), len(used), text)
	d.Limit(len(l), math.MaxUint64)
	checkAppend(t, "D3", j, text, api.OK)
	checkContents(t, "D3", d, after(before, l, len(l), 0))
	checkRecords(t, "D3", j, all...)
	checkOpen(t, "D5", d, all...)
	if err := d.Write(0, "x"); err != api.ErrDead {
		t.Fatalf("D3: Append of %d bytes to %d sectors took less than %d writes", len(text), size, len(l))
	}
}

func TestAppendToFullDevice(t *testing.T) {
	d := made(t, 3)
	j := Open(d)
	checkAppend(t, "D3", j, "a", api.OK)
	checkAppend(t, "D3", j, "b", api.ErrFull)
	checkAppend(t, "D3", j, "", api.OK)
	for range 3 {
		checkAppend(t, "D3", j, "", api.ErrFull)
		checkAppend(t, "D3", j, "c", api.ErrFull)
	}
	checkRecords(t, "D3", j, "a", "")
	j = checkOpen(t, "D5", d, "a", "")
	checkAppend(t, "D3", j, "", api.ErrFull)
}

// TestAppendOverOldRecords appends where longer and shorter records stood.
func TestAppendOverOldRecords(t *testing.T) {
	for _, n := range []int{0, 1, 64, 65, 128, 300} {
		for _, old := range []int{0, 1, 64, 65, 128, 300} {
			d := made(t, 40)
			j := Open(d)
			for range 4 {
				checkAppend(t, "D3", j, letters(old, 'a'), api.OK)
			}
			if err := j.Clear(); err != api.OK {
				t.Fatalf("D4: Clear returned %d", err)
			}
			var want []string
			for i := range 4 {
				want = append(want, letters(n, 'b'+byte(i)))
				checkAppend(t, "D3", j, want[i], api.OK)
				checkOpen(t, "D5", d, want...)
			}
			checkRecords(t, "D2", j, want...)
		}
	}
}

// TestAppendPower loses power behind each number of writes of an Append, and opens what stands there.
func TestAppendPower(t *testing.T) {
	for _, n := range []int{0, 1, 63, 64, 65, 128, 200} {
		text := letters(n, 'a')
		for _, used := range [][]string{nil, {"a"}, {"", letters(64, 'b')}} {
			first := sectorsUsed(used)
			need := first + len(sectorsFor(len(used), text))
			for _, size := range []int{need, need + 1, need + 5} {
				l := writesFor(size, first, len(used), text)
				for power := range len(l) + 1 {
					for _, mask := range masks() {
						checkPower(t, size, used, text, power, mask)
					}
				}
			}
		}
	}
}

// checkPower appends text behind the records of used with power for some writes, holds the device against the writes that the promise tells, and appends once more.
func checkPower(t *testing.T, size int, used []string, text string, power int, mask uint64) {
	t.Helper()
	what := fmt.Sprintf("%d bytes behind %d records in %d sectors, power for %d writes, mask %x", len(text), len(used), size, power, mask)
	d := littered(t, size)
	j := Open(d)
	for _, s := range used {
		checkAppend(t, what, j, s, api.OK)
	}
	before := contents(d)
	l := writesFor(size, sectorsUsed(used), len(used), text)
	all := append(slices.Clone(used), text)
	want, kept := api.ErrDead, used
	if power >= len(l) {
		want, kept = api.OK, all
	}
	d.Limit(power, mask)
	checkAppend(t, "D3: "+what, j, text, want)
	checkContents(t, "D3: "+what, d, after(before, l, power, mask))
	checkRecords(t, "D3: "+what, j, kept...)
	d.Restart()
	stored := kept
	// The mark alone tells the last two heads apart: with it, the last write came through.
	if power == len(l)-1 && mask&1 == 1 {
		stored = all
	}
	again := checkOpen(t, "D5: "+what, d, stored...)
	checkContents(t, "D1: "+what, d, after(before, l, power, mask))
	if power >= len(l) {
		return
	}
	if len(stored) == len(used) {
		checkAppend(t, "D3: "+what, again, text, api.OK)
	} else {
		checkAppend(t, "D3: "+what, j, text, api.OK)
	}
	checkOpen(t, "D5: "+what, d, all...)
}

// TestAppendBehindTornOne goes on with the same journal, and with one that is opened again, behind an Append that was torn.
func TestAppendBehindTornOne(t *testing.T) {
	for _, torn := range []int{0, 1, 64, 65, 130} {
		for _, n := range []int{0, 1, 64, 65, 130} {
			for power := range len(writesFor(40, 2, 1, letters(torn, 'a'))) {
				for _, mask := range []uint64{0, 1, 2, 0xffff, math.MaxUint64 - 1, math.MaxUint64} {
					checkBehindTorn(t, letters(torn, 'a'), letters(n, 'b'), power, mask)
				}
			}
		}
	}
}

// checkBehindTorn appends second behind an Append of first that was torn.
func checkBehindTorn(t *testing.T, first, second string, power int, mask uint64) {
	t.Helper()
	for _, reopen := range []bool{false, true} {
		what := fmt.Sprintf("%d bytes behind %d torn ones, power for %d writes, mask %x, opened again: %v", len(second), len(first), power, mask, reopen)
		d := littered(t, 40)
		j := Open(d)
		checkAppend(t, what, j, "before", api.OK)
		d.Limit(power, mask)
		checkAppend(t, what, j, first, api.ErrDead)
		// Without power nothing is stored, and nothing changes any more.
		dead := contents(d)
		checkAppend(t, what, j, second, api.ErrDead)
		checkContents(t, what, d, dead)
		d.Restart()
		if reopen {
			j = Open(d)
		}
		want := append(j.Records(), second, "behind")
		if reopen && len(want) > 3 && want[1] != first || !reopen && len(want) != 3 {
			t.Fatalf("D5: %s: the records are %s", what, short(j.Records()))
		}
		checkAppend(t, "D3: "+what, j, second, api.OK)
		checkAppend(t, "D3: "+what, j, "behind", api.OK)
		checkRecords(t, "D3: "+what, j, want...)
		checkOpen(t, "D5: "+what, d, want...)
	}
}

// TestAppendTornTwice loses power in an Append, and again in the next one of the same journal.
func TestAppendTornTwice(t *testing.T) {
	const size = 12
	for _, n := range []int{0, 64, 130} {
		first := letters(130-n, 'a')
		second := letters(n, 'b')
		one, two := writesFor(size, 2, 1, first), writesFor(size, 2, 1, second)
		for power := range len(one) {
			for again := range len(two) {
				for _, mask := range []uint64{0, 1, 0xff00, math.MaxUint64} {
					d := littered(t, size)
					j := Open(d)
					checkAppend(t, "D3", j, "before", api.OK)
					want := after(contents(d), one, power, math.MaxUint64)
					d.Limit(power, math.MaxUint64)
					checkAppend(t, "D3", j, first, api.ErrDead)
					want = after(want, two, again, mask)
					d.Limit(again, mask)
					checkAppend(t, "D3", j, second, api.ErrDead)
					checkContents(t, "D3", d, want)
					checkRecords(t, "D3", j, "before")
					d.Restart()
					stored := read(want)
					if len(stored) == 0 || stored[0] != "before" {
						t.Fatalf("D5: an earlier record is not stored any more")
					}
					checkOpen(t, "D5", d, stored...)
					checkAppend(t, "D3", j, second, api.OK)
					checkOpen(t, "D5", d, "before", second)
				}
			}
		}
	}
}

func TestClear(t *testing.T) {
	for _, texts := range [][]string{nil, {""}, {"a"}, {"a", letters(65, 'b'), "", letters(64, 'c')}} {
		d := littered(t, 20)
		j := Open(d)
		for _, s := range texts {
			checkAppend(t, "D4", j, s, api.OK)
		}
		want := contents(d)
		want[0] = zeros(64)
		d.Limit(1, math.MaxUint64)
		if err := j.Clear(); err != api.OK {
			t.Fatalf("D4: Clear returned %d", err)
		}
		d.Restart()
		checkContents(t, "D4", d, want)
		checkRecords(t, "D4", j)
		checkOpen(t, "D4", d)
		checkAppend(t, "D4", j, "new", api.OK)
		checkRecords(t, "D4", j, "new")
		if s, _ := d.Read(0); s != padded(headOf("1", 0, "new")) {
			t.Fatalf("D4: behind Clear the first sector is %q", s)
		}
		checkOpen(t, "D4", d, "new")
	}
}

func TestClearMakesRoom(t *testing.T) {
	d := made(t, 2)
	j := Open(d)
	for i := range 20 {
		text := letters(i+1, 'a')
		checkAppend(t, "D3", j, text, api.OK)
		checkAppend(t, "D3", j, text, api.ErrFull)
		checkOpen(t, "D5", d, text)
		if err := j.Clear(); err != api.OK {
			t.Fatalf("D4: Clear returned %d", err)
		}
		if i%2 == 0 {
			j = checkOpen(t, "D4", d)
			checkAppend(t, "D3", j, "", api.OK)
			j.Clear()
		}
	}
}

func TestClearWithoutPower(t *testing.T) {
	texts := []string{"a", letters(65, 'b')}
	head := headOf("1", 0, "a")
	for _, mask := range masks() {
		d := littered(t, 20)
		j := Open(d)
		for _, s := range texts {
			checkAppend(t, "D4", j, s, api.OK)
		}
		want := contents(d)
		d.Limit(0, mask)
		if err := j.Clear(); err != api.ErrDead {
			t.Fatalf("D4: Clear without power returned %d", err)
		}
		want[0] = mixed(want[0], zeros(64), mask)
		checkContents(t, "D4", d, want)
		checkRecords(t, "D4", j, texts...)
		if err := j.Clear(); err != api.ErrDead {
			t.Fatalf("D4: a second Clear without power returned %d", err)
		}
		checkRecords(t, "D4", j, texts...)
		d.Restart()
		if mask&(1<<len(head)-1) == 0 {
			checkOpen(t, "D4", d, texts...)
		} else {
			checkOpen(t, "D4", d)
		}
		// The journal goes on behind the records that it still has.
		checkAppend(t, "D4", j, "c", api.OK)
		checkRecords(t, "D4", j, "a", texts[1], "c")
		if err := j.Clear(); err != api.OK {
			t.Fatalf("D4: Clear behind a restart returned %d", err)
		}
		checkRecords(t, "D4", j)
		checkOpen(t, "D4", d)
	}
}

func TestJournalsAreApart(t *testing.T) {
	a, b := Open(made(t, 10)), Open(made(t, 10))
	checkAppend(t, "D3", a, "a", api.OK)
	checkAppend(t, "D3", b, "b", api.OK)
	checkAppend(t, "D3", a, "c", api.OK)
	b.Clear()
	checkRecords(t, "D2", a, "a", "c")
	checkRecords(t, "D2", b)
}

// numbers returns a function that returns the same sequence of numbers in every run.
func numbers() func(below int) int {
	state := uint64(1)
	return func(below int) int {
		state = state*6364136223846793005 + 1442695040888963407
		return int(state>>33) % below
	}
}

// TestOpenAnything opens devices of sectors that are put together at random.
func TestOpenAnything(t *testing.T) {
	next := numbers()
	texts := []string{"", "a", letters(64, 'a'), letters(65, 'b'), letters(130, 'c')}
	for range 2000 {
		var l []string
		for len(l) < 12 {
			s := texts[next(len(texts))]
			sectors := sectorsFor(next(4), s)
			if next(3) == 0 {
				k := next(len(sectors))
				sectors[k] = flipped(sectors[k], next(64))
			}
			l = append(l, sectors...)
		}
		d := made(t, 12, l[:12]...)
		want := read(l[:12])
		j := checkOpen(t, "D1", d, want...)
		s := texts[next(len(texts))]
		all := append(slices.Clone(want), s)
		if sectorsUsed(all) > 12 {
			checkAppend(t, "D3", j, s, api.ErrFull)
			checkOpen(t, "D5", d, want...)
		} else {
			checkAppend(t, "D3", j, s, api.OK)
			checkOpen(t, "D5", d, all...)
		}
	}
}

// read returns the records that begin at the first of the sectors, none of which has more than 200 bytes.
func read(sectors []string) []string {
	var l []string
	for len(sectors) > 0 {
		found := false
		for n := range 201 {
			need := 1 + (n+63)/64
			if need > len(sectors) {
				break
			}
			s := strings.Join(sectors[1:need], "")[:n]
			if sectors[0] == padded(headOf("1", len(l), s)) {
				l, sectors, found = append(l, s), sectors[need:], true
				break
			}
		}
		if !found {
			break
		}
	}
	return l
}

// TestSequences holds a journal against a list of texts, in long sequences of calls.
func TestSequences(t *testing.T) {
	const size = 24
	next := numbers()
	d := littered(t, size)
	j := Open(d)
	var want []string
	for range 20000 {
		switch next(12) {
		case 0:
			if err := j.Clear(); err != api.OK {
				t.Fatalf("D4: Clear returned %d", err)
			}
			want = nil
		case 1, 2, 3:
			s := letters(next(140), byte('a'+next(6)))
			l := writesFor(size, sectorsUsed(want), len(want), s)
			power, mask := next(len(l)+1), uint64(next(1<<31))<<33^uint64(next(1<<31))
			all := append(slices.Clone(want), s)
			d.Limit(power, mask)
			switch {
			case sectorsUsed(all) > size:
				checkAppend(t, "D3", j, s, api.ErrFull)
			case power < len(l):
				checkAppend(t, "D3", j, s, api.ErrDead)
			default:
				checkAppend(t, "D3", j, s, api.OK)
				want = all
			}
			d.Restart()
			// The last write changes nothing but the mark.
			if power == len(l)-1 && mask&1 == 1 && sectorsUsed(all) <= size {
				want = all
			}
			j = checkOpen(t, "D5", d, want...)
		default:
			s := letters(next(140), byte('a'+next(6)))
			all := append(slices.Clone(want), s)
			if sectorsUsed(all) > size {
				checkAppend(t, "D3", j, s, api.ErrFull)
			} else {
				checkAppend(t, "D3", j, s, api.OK)
				want = all
			}
			checkRecords(t, "D2", j, want...)
			checkOpen(t, "D5", d, want...)
		}
	}
}
