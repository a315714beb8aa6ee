package crc_test

import (
	"bytes"
	"encoding/binary"
	"hash/crc32"
	"math"
	"slices"
	"testing"

	"papermill/api"
	"papermill/crc"
	"papermill/wire"
)

// longest is the number that the document gives for MaxFrame.
const longest = 65536

// defined computes a checksum as the chapter's definition says, bit by bit.
func defined(sum uint32, b []byte) uint32 {
	register := sum ^ 0xFFFFFFFF
	for _, x := range b {
		register ^= uint32(x)
		for range 8 {
			out := register % 2
			register /= 2
			if out == 1 {
				register ^= 0xEDB88320
			}
		}
	}
	return register ^ 0xFFFFFFFF
}

// framed says a second time what a frame is, also for contents that are too long.
func framed(content []byte) []byte {
	b := binary.AppendVarint(nil, int64(len(content)))
	b = append(b, content...)
	return binary.BigEndian.AppendUint32(b, crc32.ChecksumIEEE(content))
}

// wantOpen is what Open must return.
func wantOpen(b []byte) ([]byte, int, api.Errno) {
	n, used, e := wire.TakeInt(b)
	if e != api.OK {
		return nil, 0, e
	}
	if n < 0 {
		return nil, 0, api.ErrForm
	}
	if n > longest {
		return nil, 0, api.ErrFull
	}
	rest := b[used:]
	if len(rest) < n+4 {
		return nil, 0, api.ErrTruncated
	}
	if binary.BigEndian.Uint32(rest[n:]) != crc32.ChecksumIEEE(rest[:n]) {
		return nil, 0, api.ErrChecksum
	}
	return slices.Clone(rest[:n]), used + n + 4, api.OK
}

// wantAll is what All must return.
func wantAll(b []byte) ([][]byte, int) {
	var l [][]byte
	rest := b
	for {
		content, used, e := wantOpen(rest)
		if e != api.OK {
			return l, len(b) - len(rest)
		}
		l, rest = append(l, content), rest[used:]
	}
}

// pattern returns n bytes of which neighbours differ.
func pattern(n int) []byte {
	b := make([]byte, n)
	for i := range b {
		b[i] = byte(i*37 + i>>8 + 165)
	}
	return b
}

// spoil writes other bytes wherever memory could be shared.
func spoil(b []byte) {
	b = b[:cap(b)]
	for i := range b {
		b[i] ^= 0x5a
	}
}

// random returns numbers in an order without a rule, the same ones in every run.
func random() func() uint32 {
	x := uint64(1)
	return func() uint32 {
		x = x*6364136223846793005 + 1442695040888963407
		return uint32(x >> 32)
	}
}

func randomBytes(next func() uint32, n int) []byte {
	b := make([]byte, n)
	for i := range b {
		b[i] = byte(next())
	}
	return b
}

// contents are of all lengths that matter: around those at which the length needs another byte, and the longest ones.
func contents() [][]byte {
	l := [][]byte{nil, {}, []byte("a"), []byte("abc"), []byte("123456789"), {0}, {0, 0}, {255}, {255, 255, 255, 255}, {2, 97, 0xE8, 0xB7, 0xBE, 0x43}}
	for x := range 256 {
		l = append(l, []byte{byte(x)})
	}
	for _, n := range []int{1, 2, 3, 4, 5, 8, 62, 63, 64, 65, 127, 128, 129, 255, 256, 1000, 8191, 8192, 8193, 65534, 65535, 65536} {
		l = append(l, make([]byte, n), bytes.Repeat([]byte{255}, n), pattern(n))
	}
	return l
}

// shortContents are those to which much is done.
func shortContents() [][]byte {
	return slices.DeleteFunc(contents(), func(b []byte) bool { return len(b) > 130 })
}

// sums are all kinds of checksums that Extend may be given.
func sums() []uint32 {
	l := []uint32{0, 1, 2, 0x7FFFFFFF, 0x80000000, 0x80000001, 0xFFFFFFFE, 0xFFFFFFFF, 0xEDB88320, 0x04C11DB7, 0xCBF43926, 0xDEBB20E3, 0x2144DF1C, 0x12345678, 0x00FF00FF, 0xAAAAAAAA, 0x55555555}
	for k := range 32 {
		l = append(l, 1<<k, ^uint32(1<<k))
	}
	for x := range uint32(256) {
		l = append(l, x, ^x, x<<24, x<<12)
	}
	return l
}

func checkSum(t *testing.T, b []byte) {
	t.Helper()
	kept := slices.Clone(b)
	if got, want := crc.Sum(b), crc32.ChecksumIEEE(b); got != want || want != defined(0, b) {
		t.Fatalf("Sum of %d bytes (%.80v) = %#x, not %#x", len(b), b, got, want)
	}
	if !bytes.Equal(b, kept) {
		t.Fatalf("Sum changed %.80v to %.80v", kept, b)
	}
}

func checkExtend(t *testing.T, sum uint32, b []byte) {
	t.Helper()
	kept := slices.Clone(b)
	if got, want := crc.Extend(sum, b), crc32.Update(sum, crc32.IEEETable, b); got != want || want != defined(sum, b) {
		t.Fatalf("Extend of %#x by %d bytes (%.80v) = %#x, not %#x", sum, len(b), b, got, want)
	}
	if !bytes.Equal(b, kept) {
		t.Fatalf("Extend changed %.80v to %.80v", kept, b)
	}
}

// checkFrame gives a content with room behind it.
func checkFrame(t *testing.T, content []byte, want []byte, wantE api.Errno) {
	t.Helper()
	memory := slices.Concat(content, []byte("the room behind it"))
	kept := slices.Clone(memory)
	given := memory[:len(content)]
	first, e1 := crc.Frame(given)
	second, e2 := crc.Frame(given)
	if !bytes.Equal(first, want) || !bytes.Equal(second, want) || e1 != wantE || e2 != wantE {
		t.Fatalf("Frame of %d bytes (%.80v) = %.80v, %d and %.80v, %d, not %.80v, %d", len(content), content, first, e1, second, e2, want, wantE)
	}
	spoil(first)
	if !bytes.Equal(memory, kept) || !bytes.Equal(second, want) {
		t.Fatalf("Frame of %d bytes changes them or shares memory", len(content))
	}
	spoil(memory)
	if !bytes.Equal(second, want) {
		t.Fatalf("Frame of %d bytes shares memory with them", len(content))
	}
}

// checkOpen also checks that what is opened is a frame: the one of its content.
func checkOpen(t *testing.T, b []byte, want []byte, wantUsed int, wantE api.Errno) {
	t.Helper()
	kept := slices.Clone(b)
	content, used, e := crc.Open(b)
	if !bytes.Equal(content, want) || used != wantUsed || e != wantE {
		t.Fatalf("Open of %d bytes (%.80v) = %d bytes (%.80v), %d, %d, not %d (%.80v), %d, %d", len(b), b, len(content), content, used, e, len(want), want, wantUsed, wantE)
	}
	if !bytes.Equal(b, kept) {
		t.Fatalf("Open changed %.80v to %.80v", kept, b)
	}
	if e != api.OK {
		return
	}
	if frame, e := crc.Frame(content); e != api.OK || used != len(frame) || !bytes.HasPrefix(b, frame) {
		t.Fatalf("Open of %d bytes (%.80v) gives a content with the frame %.80v, %d", len(b), b, frame, e)
	}
}

func expectOpen(t *testing.T, b []byte) {
	t.Helper()
	content, used, e := wantOpen(b)
	checkOpen(t, b, content, used, e)
}

func equalLists(a, b [][]byte) bool { return slices.EqualFunc(a, b, bytes.Equal) }

func checkAll(t *testing.T, b []byte, want [][]byte, wantTotal int) {
	t.Helper()
	kept := slices.Clone(b)
	l, total := crc.All(b)
	if !equalLists(l, want) || total != wantTotal {
		t.Fatalf("All of %d bytes (%.80v) = %d contents (%.80v), %d, not %d (%.80v), %d", len(b), b, len(l), l, total, len(want), want, wantTotal)
	}
	if !bytes.Equal(b, kept) {
		t.Fatalf("All changed %.80v to %.80v", kept, b)
	}
}

func expectAll(t *testing.T, b []byte) {
	t.Helper()
	l, total := wantAll(b)
	checkAll(t, b, l, total)
}

// follow are bytes that may follow a frame.
func follow() [][]byte {
	return [][]byte{nil, {0}, {1}, {2}, {128}, {255}, {0, 0, 0, 0}, {0, 0, 0, 0, 0}, bytes.Repeat([]byte{255}, 20), {2, 97, 0xE8, 0xB7, 0xBE, 0x43}, []byte("what follows a frame")}
}

// noLengths are bytes at whose beginning there is no length, with the error of it.
func noLengths() map[string]api.Errno {
	l := map[string]api.Errno{
		"\x80\x00": api.ErrForm, "\xff\x00": api.ErrForm, "\x82\x00": api.ErrForm, "\x80\x80\x00": api.ErrForm, "\x82\x80\x80\x00": api.ErrForm,
	}
	nine := string(bytes.Repeat([]byte{128}, 9))
	for x := range 256 {
		switch {
		case x == 0:
			l[nine+"\x00"] = api.ErrForm
		case x > 1:
			l[nine+string([]byte{byte(x)})] = api.ErrOverflow
		}
	}
	return l
}

// badLengths are lengths that no frame has, with the error of Open.
func badLengths() map[int]api.Errno {
	l := map[int]api.Errno{}
	for _, n := range []int{1, 2, 3, 4, 5, 63, 64, 65, 128, 8192, 8193, 65535, 65536, 65537, 1 << 31, 1 << 32, 1 << 48, 1 << 62, math.MaxInt - 1, math.MaxInt} {
		l[-n] = api.ErrForm
	}
	l[math.MinInt] = api.ErrForm
	for _, n := range []int{65537, 65538, 65540, 65541, 70000, 131072, 1 << 20, 1 << 24, 1<<31 - 1, 1 << 31, 1 << 32, 1<<32 + 1, 1<<32 + 4, 1 << 48, 1<<48 + 1, 1 << 62, math.MaxInt - 10, math.MaxInt - 4, math.MaxInt - 3, math.MaxInt - 1, math.MaxInt} {
		l[n] = api.ErrFull
	}
	return l
}

// changed returns b with another byte at a place.
func changed(b []byte, at int, x byte) []byte {
	b = slices.Clone(b)
	b[at] = x
	return b
}

// P9.1

func TestSumExamples(t *testing.T) {
	for s, want := range map[string]uint32{
		"": 0, "a": 0xE8B7BE43, "abc": 0x352441C2, "123456789": 0xCBF43926, "\x00": 0xD202EF8D, "\xff": 0xFF000000, "\x00\x00\x00\x00": 0x2144DF1C, "\xff\xff\xff\xff": 0xFFFFFFFF,
		"message digest": 0x20159D7F, "The quick brown fox jumps over the lazy dog": 0x414FA339,
	} {
		if got := crc.Sum([]byte(s)); got != want {
			t.Errorf("Sum of %q = %#x, not %#x", s, got, want)
		}
		checkSum(t, []byte(s))
	}
	if got := crc.Sum(nil); got != 0 {
		t.Errorf("Sum of nil = %#x", got)
	}
}

func TestSum(t *testing.T) {
	for _, b := range contents() {
		checkSum(t, b)
	}
	for n := range 300 {
		checkSum(t, pattern(n))
	}
	for _, n := range []int{65537, 1<<20 - 1, 1 << 20, 1<<21 + 3} {
		checkSum(t, pattern(n))
	}
}

// Each byte meets registers of all kinds, also those that several bytes have left.
func TestSumOfTwoAndThreeBytes(t *testing.T) {
	for x := range 1 << 16 {
		checkSum(t, []byte{byte(x), byte(x >> 8)})
		checkSum(t, []byte{byte(x), 0x5A, byte(x >> 8)})
	}
}

// Only the bytes up to the length count.
func TestSumOfPartOfMemory(t *testing.T) {
	memory := pattern(200)
	for from := range 50 {
		for to := from; to < 100; to++ {
			checkSum(t, memory[from:to])
			checkSum(t, memory[from:to:to])
		}
	}
}

// P9.2

func TestExtendExamples(t *testing.T) {
	for _, c := range []struct {
		sum  uint32
		s    string
		want uint32
	}{
		{0, "", 0}, {1, "", 1}, {0x80000000, "", 0x80000000}, {0xFFFFFFFF, "", 0xFFFFFFFF}, {0, "a", 0xE8B7BE43}, {0xE8B7BE43, "bc", 0x352441C2}, {0xFFFFFFFF, "\x00", 0xFFFFFFFF}, {0xFFFFFFFF, "\x00\x00\x00\x00\x00", 0xFFFFFFFF},
		// Only the last of the eight steps shifts out a 1, which the byte or the register brings.
		{0xFFFFFFFF, "\x80", ^uint32(0xEDB88320)}, {0xFFFFFF7F, "", 0xFFFFFF7F}, {0xFFFFFF7F, "\x00", ^uint32(0xEDB88320)}, {0xFFFFFF7F, "\x80", 0xFFFFFFFF},
		// Only zeros are shifted out.
		{0xFFFFFEFF, "\x00", 0xFFFFFFFE}, {0x7FFFFFFF, "\x00", 0xFF7FFFFF},
	} {
		if got := crc.Extend(c.sum, []byte(c.s)); got != c.want {
			t.Errorf("Extend of %#x by %q = %#x, not %#x", c.sum, c.s, got, c.want)
		}
		checkExtend(t, c.sum, []byte(c.s))
	}
	for _, sum := range sums() {
		if got := crc.Extend(sum, nil); got != sum {
			t.Errorf("Extend of %#x by nil = %#x", sum, got)
		}
	}
}

func TestExtend(t *testing.T) {
	for _, sum := range sums() {
		for _, b := range shortContents() {
			checkExtend(t, sum, b)
		}
	}
	for _, sum := range []uint32{0, 1, 0x80000000, 0xFFFFFFFF, 0x12345678} {
		for _, b := range contents() {
			checkExtend(t, sum, b)
		}
	}
}

// Sums without a rule, each with each byte.
func TestExtendOfManySums(t *testing.T) {
	next := random()
	for range 3000 {
		sum := next()
		for x := range 256 {
			checkExtend(t, sum, []byte{byte(x)})
		}
		checkExtend(t, sum, randomBytes(next, int(next()%40)))
	}
}

// P9.3

func TestFrameExamples(t *testing.T) {
	for s, want := range map[string]string{
		"": "\x00\x00\x00\x00\x00", "a": "\x02a\xe8\xb7\xbe\x43", "abc": "\x06abc\x35\x24\x41\xc2", "123456789": "\x12123456789\xcb\xf4\x39\x26", "\xff": "\x02\xff\xff\x00\x00\x00", "\xff\xff\xff\xff": "\x08\xff\xff\xff\xff\xff\xff\xff\xff",
	} {
		checkFrame(t, []byte(s), []byte(want), api.OK)
	}
	checkFrame(t, nil, make([]byte, 5), api.OK)
	checkFrame(t, []byte{}, make([]byte, 5), api.OK)
}

func TestFrame(t *testing.T) {
	for _, content := range contents() {
		checkFrame(t, content, framed(content), api.OK)
	}
	for n := range 200 {
		checkFrame(t, pattern(n), framed(pattern(n)), api.OK)
	}
}

func TestFrameLengths(t *testing.T) {
	for n, begin := range map[int][]byte{
		0: {0}, 1: {2}, 63: {126}, 64: {128, 1}, 8191: {254, 127}, 8192: {128, 128, 1}, 65535: {254, 255, 7}, 65536: {128, 128, 8},
	} {
		content := pattern(n)
		b, e := crc.Frame(content)
		if e != api.OK || len(b) != len(begin)+n+4 || !bytes.HasPrefix(b, begin) || !bytes.Equal(b[len(begin):len(b)-4], content) {
			t.Errorf("Frame of %d bytes has %d, %d and begins with %.9v", n, len(b), e, b)
		}
	}
}

func TestFrameTooLong(t *testing.T) {
	for _, n := range []int{65537, 65538, 65540, 65541, 1 << 17, 1 << 20, 1 << 24} {
		content := pattern(n)
		checkFrame(t, content, nil, api.ErrFull)
		// The length counts, not the room behind it.
		checkFrame(t, content[:longest], framed(content[:longest]), api.OK)
	}
}

// P9.4

func TestOpenExamples(t *testing.T) {
	for _, c := range []struct {
		b    string
		s    string
		used int
		e    api.Errno
	}{
		{"\x00\x00\x00\x00\x00", "", 5, api.OK}, {"\x02a\xe8\xb7\xbe\x43", "a", 6, api.OK}, {"\x06abc\x35\x24\x41\xc2", "abc", 8, api.OK}, {"\x02a\xe8\xb7\xbe\x43\x02", "a", 6, api.OK}, {"\x00\x00\x00\x00\x00\x01", "", 5, api.OK}, {"\x02a\xe8\xb7\xbe\x43\x06abc\x35\x24\x41\xc2", "a", 6, api.OK},
		{"", "", 0, api.ErrTruncated}, {"\x80", "", 0, api.ErrTruncated}, {"\xff\xff", "", 0, api.ErrTruncated}, {"\x80\x00", "", 0, api.ErrForm}, {"\x80\x00\x00\x00\x00\x00", "", 0, api.ErrForm}, {"\x82\x00a\xe8\xb7\xbe\x43", "", 0, api.ErrForm},
		{"\x80\x80\x80\x80\x80\x80\x80\x80\x80\x02", "", 0, api.ErrOverflow}, {"\xff\xff\xff\xff\xff\xff\xff\xff\xff\xff\x01", "", 0, api.ErrOverflow},
		{"\x01", "", 0, api.ErrForm}, {"\x01\x00\x00\x00\x00", "", 0, api.ErrForm}, {"\x03a\xe8\xb7\xbe\x43", "", 0, api.ErrForm}, {"\xff\xff\xff\xff\xff\xff\xff\xff\xff\x01", "", 0, api.ErrForm},
		{"\x82\x80\x08", "", 0, api.ErrFull}, {"\x82\x80\x08abc", "", 0, api.ErrFull}, {"\xfe\xff\xff\xff\xff\xff\xff\xff\xff\x01", "", 0, api.ErrFull}, {"\xfe\xff\xff\xff\xff\xff\xff\xff\xff\x01abcde", "", 0, api.ErrFull},
		{"\x80\x80\x08", "", 0, api.ErrTruncated}, {"\x02", "", 0, api.ErrTruncated}, {"\x02a", "", 0, api.ErrTruncated}, {"\x02a\xe8\xb7\xbe", "", 0, api.ErrTruncated}, {"\x02a\x00\x00\x00", "", 0, api.ErrTruncated}, {"\x00", "", 0, api.ErrTruncated}, {"\x00\x00\x00\x00", "", 0, api.ErrTruncated}, {"\x00\x01\x01\x01", "", 0, api.ErrTruncated},
		{"\x02b\xe8\xb7\xbe\x43", "", 0, api.ErrChecksum}, {"\x02a\xe8\xb7\xbe\x42", "", 0, api.ErrChecksum}, {"\x02a\x43\xbe\xb7\xe8", "", 0, api.ErrChecksum}, {"\x00\x00\x00\x00\x01", "", 0, api.ErrChecksum}, {"\x00\x01\x00\x00\x00", "", 0, api.ErrChecksum}, {"\x00\xff\xff\xff\xff", "", 0, api.ErrChecksum}, {"\x02a\x17\x48\x41\xbc", "", 0, api.ErrChecksum},
	} {
		checkOpen(t, []byte(c.b), []byte(c.s), c.used, c.e)
		expectOpen(t, []byte(c.b))
	}
	checkOpen(t, nil, nil, 0, api.ErrTruncated)
}

// At the place of the length there is none: nothing behind it matters, not even a whole frame.
func TestOpenWithoutLength(t *testing.T) {
	for s, e := range noLengths() {
		for _, rest := range follow() {
			checkOpen(t, append([]byte(s), rest...), nil, 0, e)
		}
		checkOpen(t, append([]byte(s), make([]byte, longest+100)...), nil, 0, e)
	}
	for n := range 10 {
		checkOpen(t, bytes.Repeat([]byte{128}, n), nil, 0, api.ErrTruncated)
		checkOpen(t, bytes.Repeat([]byte{255}, n), nil, 0, api.ErrTruncated)
	}
}

// A negative length, and one that is too great, is refused whether the bytes behind it end too early, or have a wrong checksum, or a right one.
func TestOpenOfBadLengths(t *testing.T) {
	many := pattern(longest + 100)
	for n, e := range badLengths() {
		begin := binary.AppendVarint(nil, int64(n))
		for _, rest := range append(follow(), many) {
			checkOpen(t, append(slices.Clone(begin), rest...), nil, 0, e)
		}
		for k := range 20 {
			checkOpen(t, append(slices.Clone(begin), many[:k]...), nil, 0, e)
		}
	}
	for _, n := range []int{65537, 65538, 70000, 1 << 17, 1 << 20} {
		checkOpen(t, framed(pattern(n)), nil, 0, api.ErrFull)
	}
	for _, n := range []int{1, 2, 63, 64, 65536} {
		frame := framed(pattern(n))
		_, used, _ := wire.TakeInt(frame)
		negative := append(binary.AppendVarint(nil, int64(-n)), frame[used:]...)
		checkOpen(t, negative, nil, 0, api.ErrForm)
	}
}

// The lengths are permitted, and the bytes behind them are missing altogether, or in part; what is there would have a wrong checksum.
func TestOpenTruncated(t *testing.T) {
	many := pattern(longest + 4)
	for _, n := range []int{0, 1, 2, 3, 4, 5, 62, 63, 64, 65, 127, 128, 8191, 8192, 65535, 65536} {
		begin := binary.AppendVarint(nil, int64(n))
		for _, there := range []int{0, 1, 2, 3, 4, 5, n / 2, n - 1, n, n + 1, n + 2, n + 3} {
			if there < 0 || there > n+3 {
				continue
			}
			memory := append(slices.Clone(begin), many...)
			checkOpen(t, memory[:len(begin)+there], nil, 0, api.ErrTruncated)
			checkOpen(t, slices.Clone(memory[:len(begin)+there]), nil, 0, api.ErrTruncated)
		}
		checkOpen(t, append(slices.Clone(begin), many[:n+4]...), nil, 0, api.ErrChecksum)
		checkOpen(t, append(slices.Clone(begin), many...), nil, 0, api.ErrChecksum)
	}
}

// Each bit of the checksum counts; so does the order of its bytes, and the complement.
func TestOpenWithWrongChecksum(t *testing.T) {
	for _, content := range contents() {
		frame := framed(content)
		at := len(frame) - 4
		for k := range 32 {
			bad := slices.Clone(frame)
			bad[at+k/8] ^= 1 << (k % 8)
			checkOpen(t, bad, nil, 0, api.ErrChecksum)
			checkOpen(t, append(bad, "behind"...), nil, 0, api.ErrChecksum)
		}
		sum := crc32.ChecksumIEEE(content)
		for _, bad := range []uint32{0, ^uint32(0), ^sum, sum + 1, sum<<24 | sum>>8, defined(0xFFFFFFFF, content), crc32.ChecksumIEEE(frame[:at]), crc32.Checksum(content, crc32.MakeTable(crc32.Castagnoli))} {
			if bad != sum {
				checkOpen(t, binary.BigEndian.AppendUint32(frame[:at:at], bad), nil, 0, api.ErrChecksum)
			}
		}
		if turned := binary.LittleEndian.AppendUint32(frame[:at:at], sum); !bytes.Equal(turned, frame) {
			checkOpen(t, turned, nil, 0, api.ErrChecksum)
		}
	}
}

// Most of these are no frames; all errors occur.
func TestOpenOfShortBytes(t *testing.T) {
	seen := map[api.Errno]int{}
	l := [][]byte{nil}
	for begin := 0; len(l) < 200000; {
		end := len(l)
		for _, b := range l[begin:end] {
			for _, x := range []byte{0, 1, 2, 4, 97, 128, 130, 255} {
				l = append(l, append(slices.Clone(b), x))
			}
		}
		begin = end
	}
	for _, b := range l {
		expectOpen(t, b)
		_, _, e := crc.Open(b)
		seen[e]++
	}
	for _, e := range []api.Errno{api.OK, api.ErrForm, api.ErrFull, api.ErrTruncated, api.ErrChecksum} {
		if seen[e] == 0 {
			t.Errorf("Open returned %d for none of %d strings", e, len(l))
		}
	}
}

func TestOpenIsNewMemory(t *testing.T) {
	for _, content := range contents() {
		b := append(framed(content), "behind"...)
		kept := slices.Clone(b)
		first, _, _ := crc.Open(b)
		second, _, _ := crc.Open(b)
		spoil(first)
		if !bytes.Equal(b, kept) || !bytes.Equal(second, content) {
			t.Fatalf("a content of %d bytes shares memory", len(content))
		}
		spoil(b)
		if !bytes.Equal(second, content) {
			t.Fatalf("a content of %d bytes shares memory with its frame", len(content))
		}
	}
}

// P9.5

func TestAllExamples(t *testing.T) {
	a, empty, abc := []byte("a"), []byte{}, []byte("abc")
	for _, c := range []struct {
		b     string
		l     [][]byte
		total int
	}{
		{"\x02a\xe8\xb7\xbe\x43\x00\x00\x00\x00\x00\x02", [][]byte{a, empty}, 11}, {"\x02a\xe8\xb7\xbe\x43\x00\x00\x00\x00\x00", [][]byte{a, empty}, 11}, {"\x00\x00\x00\x00\x00\x02a\xe8\xb7\xbe\x43", [][]byte{empty, a}, 11},
		{"", nil, 0}, {"\x02", nil, 0}, {"\x01", nil, 0}, {"\x00\x00\x00\x00", nil, 0}, {"\x00\x00\x00\x00\x01", nil, 0}, {"\x82\x80\x08", nil, 0}, {"\x00\x00\x00\x00\x00", [][]byte{empty}, 5}, {"\x00\x00\x00\x00\x00\x00\x00\x00\x00", [][]byte{empty}, 5}, {"\x00\x00\x00\x00\x00\x00\x00\x00\x00\x00", [][]byte{empty, empty}, 10},
		{"\x02b\xe8\xb7\xbe\x43\x06abc\x35\x24\x41\xc2", nil, 0}, {"\x02a\xe8\xb7\xbe\x43\x01\x06abc\x35\x24\x41\xc2", [][]byte{a}, 6}, {"\x02a\xe8\xb7\xbe\x43\x06abd\x35\x24\x41\xc2\x02a\xe8\xb7\xbe\x43", [][]byte{a}, 6}, {"\x02a\xe8\xb7\xbe\x43\x06abc\x35\x24\x41\xc2\x02a\xe8\xb7\xbe\x43", [][]byte{a, abc, a}, 20},
	} {
		checkAll(t, []byte(c.b), c.l, c.total)
		expectAll(t, []byte(c.b))
	}
	checkAll(t, nil, nil, 0)
}

// tails are bytes at whose beginning there is no whole frame, for each error of Open; in some of them whole frames follow.
func tails() [][]byte {
	frame := framed([]byte("tail"))
	l := [][]byte{nil, changed(frame, 3, 'x'), append(changed(frame, len(frame)-1, 0), frame...), append([]byte{1}, frame...), append([]byte{130, 128, 8}, frame...), append([]byte{128, 0}, frame...), append(bytes.Repeat([]byte{128}, 10), frame...), {0, 0, 0, 0, 1}}
	for n := range frame {
		l = append(l, frame[:n])
	}
	return l
}

func TestAll(t *testing.T) {
	frames := shortContents()
	for n := range frames {
		if n > 20 && n%16 > 0 {
			continue
		}
		var b []byte
		for _, content := range frames[:n] {
			b = append(b, framed(content)...)
		}
		for _, tail := range tails() {
			checkAll(t, slices.Concat(b, tail), frames[:n], len(b))
		}
	}
}

func TestAllOfOneFrame(t *testing.T) {
	for _, content := range contents() {
		b := framed(content)
		for _, tail := range tails() {
			checkAll(t, slices.Concat(b, tail), [][]byte{content}, len(b))
		}
	}
}

func TestAllOfManyFrames(t *testing.T) {
	var b []byte
	var all [][]byte
	for i := range 3 {
		for _, content := range contents() {
			b = append(b, framed(content)...)
			all = append(all, content)
		}
		for n := range 3000 {
			content := pattern(n % (7 + i))
			b = append(b, framed(content)...)
			all = append(all, content)
		}
	}
	for _, tail := range tails() {
		checkAll(t, slices.Concat(b, tail), all, len(b))
	}
	empty := make([]byte, 5*100000)
	checkAll(t, empty, make([][]byte, 100000), len(empty))
	checkAll(t, empty[:len(empty)-1], make([][]byte, 99999), len(empty)-5)
}

// All gives the contents up to the damaged frame, wherever it is.
func TestAllUpToDamage(t *testing.T) {
	var b []byte
	var begins []int
	var all [][]byte
	for n := range 12 {
		begins = append(begins, len(b))
		all = append(all, pattern(n))
		b = append(b, framed(pattern(n))...)
	}
	for i := range b {
		n := len(begins) - 1
		for begins[n] > i {
			n--
		}
		for x := range 256 {
			bad := changed(b, i, byte(x))
			expectAll(t, bad)
			if b[i] != byte(x) && i > begins[n] {
				checkAll(t, bad, all[:n], begins[n])
			}
		}
		checkAll(t, b[:i], all[:n], begins[n])
	}
}

func TestAllIsNewMemory(t *testing.T) {
	var b []byte
	want := [][]byte{[]byte("a"), {}, []byte("abc"), pattern(63), pattern(64), pattern(1000), {}, []byte("b"), pattern(longest)}
	for _, content := range want {
		b = append(b, framed(content)...)
	}
	kept := slices.Clone(b)
	for i := range want {
		l, _ := crc.All(b)
		again, _ := crc.All(b)
		for k := range l {
			if k != i {
				spoil(l[k])
			}
		}
		if !bytes.Equal(l[i], want[i]) || !equalLists(again, want) || !bytes.Equal(b, kept) {
			t.Fatalf("contents of All share memory with content %d, with those of another call or with the frames", i)
		}
		l = append(l[:0], nil, nil)
		if !equalLists(again, want) {
			t.Fatalf("the lists of two calls share memory")
		}
	}
	l, _ := crc.All(b)
	spoil(b)
	if !equalLists(l, want) {
		t.Fatalf("contents of All share memory with the frames")
	}
}

// P9.6

func TestParts(t *testing.T) {
	for _, b := range contents() {
		all := crc.Sum(b)
		step := 1 + len(b)/40
		for k := 0; k <= len(b); k += step {
			if got := crc.Extend(crc.Sum(b[:k]), b[k:]); got != all {
				t.Fatalf("Extend of the Sum of %d bytes by %d bytes = %#x, not %#x", k, len(b)-k, got, all)
			}
		}
		if crc.Extend(all, nil) != all || crc.Extend(0, b) != all {
			t.Fatalf("Extend of the Sum of %d bytes by none, or of 0 by them, is not %#x", len(b), all)
		}
	}
}

func TestManyParts(t *testing.T) {
	b := pattern(3000)
	next := random()
	for range 200 {
		sum := crc.Sum(nil)
		for rest := b; len(rest) > 0; {
			n := min(len(rest), int(next()%50))
			sum = crc.Extend(sum, rest[:n])
			rest = rest[n:]
		}
		if want := crc.Sum(b); sum != want {
			t.Fatalf("Extend part by part = %#x, not %#x", sum, want)
		}
	}
}

func TestPartsOfEverySum(t *testing.T) {
	b := pattern(40)
	for _, sum := range sums() {
		all := crc.Extend(sum, b)
		for k := range b {
			if got := crc.Extend(crc.Extend(sum, b[:k]), b[k:]); got != all {
				t.Fatalf("Extend of %#x by %d and %d bytes = %#x, not %#x", sum, k, len(b)-k, got, all)
			}
		}
	}
}

// P9.7

func TestFramesThereAndBack(t *testing.T) {
	for _, content := range contents() {
		frame, e := crc.Frame(content)
		if e != api.OK {
			t.Fatalf("Frame of %d bytes = %d", len(content), e)
		}
		for _, rest := range append(follow(), frame, pattern(1000)) {
			checkOpen(t, slices.Concat(frame, rest), content, len(frame), api.OK)
		}
		within, _, _ := crc.Open(frame)
		again, e := crc.Frame(within)
		if e != api.OK || !bytes.Equal(again, frame) {
			t.Fatalf("Frame of an opened content of %d bytes is another one", len(content))
		}
	}
}

func TestAllFramesThereAndBack(t *testing.T) {
	next := random()
	for range 300 {
		var b []byte
		var want [][]byte
		for range next() % 30 {
			content := randomBytes(next, int(next()%100))
			frame, _ := crc.Frame(content)
			b, want = append(b, frame...), append(want, content)
		}
		checkAll(t, b, want, len(b))
		// All of the frames is a content itself.
		outer, e := crc.Frame(b)
		checkOpen(t, append(outer, b...), b, len(outer), e)
		checkAll(t, append(outer, b...), append([][]byte{b}, want...), len(outer)+len(b))
	}
}

// Whatever is opened is a frame (which checkOpen finds): these are frames of which some bytes are changed, added or left out.
func TestOpenOfDamagedFrames(t *testing.T) {
	next := random()
	seen := map[api.Errno]int{}
	for range 20000 {
		b := framed(randomBytes(next, int(next()%12)))
		b = append(b, framed(randomBytes(next, int(next()%90)))...)
		for range next() % 3 {
			i := int(next()) % (1 + len(b)/3)
			switch next() % 3 {
			case 0:
				b[i] = byte(next())
			case 1:
				b = slices.Insert(b, i, byte(next()))
			default:
				b = slices.Delete(b, i, i+1)
			}
		}
		expectOpen(t, b)
		expectAll(t, b)
		_, _, e := crc.Open(b)
		seen[e]++
	}
	for _, e := range []api.Errno{api.OK, api.ErrForm, api.ErrTruncated, api.ErrChecksum} {
		if seen[e] < 100 {
			t.Errorf("Open returned %d only %d times", e, seen[e])
		}
	}
}

// P9.8

// burst returns b with the bits of x changed in the at most four bytes from a place on.
func burst(b []byte, at int, x uint32) []byte {
	b = slices.Clone(b)
	for ; x > 0; x >>= 8 {
		b[at] ^= byte(x)
		at++
	}
	return b
}

func checkBurst(t *testing.T, b []byte, at int, x uint32) {
	t.Helper()
	other := burst(b, at, x)
	if crc.Sum(b) == crc.Sum(other) {
		t.Fatalf("%.80v and %.80v have the same checksum", b, other)
	}
}

// All changes of one and of two neighbouring bytes of short strings.
func TestShortBursts(t *testing.T) {
	for n := 1; n <= 12; n++ {
		b := pattern(n)
		for at := range n {
			for x := uint32(1); x < 256; x++ {
				checkBurst(t, b, at, x)
			}
		}
	}
	for _, n := range []int{2, 3, 9} {
		for _, at := range []int{0, (n - 1) / 2, n - 2} {
			for x := uint32(1); x < 1<<16; x += 7 {
				checkBurst(t, pattern(n), at, x)
			}
		}
	}
}

// At the beginning, within and at the end of strings of many lengths.
func TestLongBursts(t *testing.T) {
	next := random()
	changes := []uint32{0xFFFFFFFF, 0x80000000, 0x80000001, 0x00000101, 0x01010101, 0xEDB88320, 0x04C11DB7, 0x20B8ED00, 0x83B8ED, 0x2083B8ED, 0xDB710641, 0x1DB71064, 0xFF0000FF, 0x00FFFF00}
	for k := range 32 {
		changes = append(changes, 1<<k)
	}
	for range 300 {
		changes = append(changes, next()|1)
	}
	for _, n := range []int{4, 5, 6, 7, 8, 63, 64, 65, 300, 8192} {
		b := pattern(n)
		for _, at := range []int{0, 1, (n - 4) / 2, n - 5, n - 4} {
			if at < 0 || at > n-4 {
				continue
			}
			for _, x := range changes {
				checkBurst(t, b, at, x)
			}
		}
	}
}

// A change of several bits changes the checksum by the exclusive or of what each bit alone changes, and the changes of 32 neighbouring bits are independent; so all bursts at these places are found, not only those that are tried.
func TestBurstsOfIndependentBits(t *testing.T) {
	next := random()
	for _, n := range []int{4, 5, 64, 1000, longest} {
		b := randomBytes(next, n)
		for _, at := range []int{0, (n - 4) / 2, n - 4} {
			sum := crc.Sum(b)
			var alone [32]uint32
			for k := range alone {
				alone[k] = crc.Sum(burst(b, at, 1<<k)) ^ sum
			}
			for range 20 {
				x := next()
				want := sum
				for k := range alone {
					if x>>k&1 == 1 {
						want ^= alone[k]
					}
				}
				if got := crc.Sum(burst(b, at, x)); got != want {
					t.Fatalf("a burst %#x at %d of %d bytes gives %#x, not %#x", x, at, n, got, want)
				}
			}
			if rank := rankOf(alone[:]); rank != 32 {
				t.Fatalf("bits from byte %d of %d on are not independent: rank %d", at, n, rank)
			}
		}
	}
}

// rankOf is the number of independent rows of bits.
func rankOf(rows []uint32) int {
	rows = slices.Clone(rows)
	rank := 0
	for i, row := range rows {
		if row == 0 {
			continue
		}
		rank++
		for k := i + 1; k < len(rows); k++ {
			// The smaller one of the two does not have the highest bit of the row.
			rows[k] = min(rows[k], rows[k]^row)
		}
	}
	return rank
}

// P9.9

// lengthBytes is the number of bytes of the length of a frame.
func lengthBytes(content []byte) int {
	return len(binary.AppendVarint(nil, int64(len(content))))
}

func TestDamage(t *testing.T) {
	for _, content := range shortContents() {
		frame, _ := crc.Frame(content)
		begin := lengthBytes(content)
		for i := begin; i < len(frame); i++ {
			for x := range 256 {
				if byte(x) == frame[i] {
					continue
				}
				bad := changed(frame, i, byte(x))
				if c, n, e := crc.Open(bad); len(c) > 0 || n != 0 || e != api.ErrChecksum {
					t.Fatalf("Open of %.80v = %.80v, %d, %d", bad, c, n, e)
				}
			}
		}
	}
}

// Of long frames, some bytes, the first and the last ones among them.
func TestDamageOfLongFrames(t *testing.T) {
	next := random()
	for _, n := range []int{8191, 8192, 65535, 65536} {
		frame, _ := crc.Frame(pattern(n))
		begin := lengthBytes(pattern(n))
		places := []int{begin, begin + 1, begin + n - 1, begin + n, begin + n + 1, begin + n + 2, begin + n + 3}
		for range 40 {
			places = append(places, begin+int(next()%uint32(n)))
		}
		for _, i := range places {
			for _, x := range []byte{1, 2, 16, 128, 255} {
				checkOpen(t, changed(frame, i, frame[i]^x), nil, 0, api.ErrChecksum)
			}
		}
	}
}

func TestDamageOfLength(t *testing.T) {
	seen := map[api.Errno]int{}
	for _, content := range append(shortContents(), []byte("a\xe8\xb7\xbe\x43"), make([]byte, 66), bytes.Repeat([]byte{255}, 9), pattern(8191), pattern(8192), pattern(longest-1), pattern(longest)) {
		frame, _ := crc.Frame(content)
		for i := range lengthBytes(content) {
			for x := range 256 {
				if byte(x) == frame[i] {
					continue
				}
				for _, rest := range [][]byte{nil, {0, 0, 0, 0, 0, 0, 0, 0, 0}, framed(content)} {
					bad := append(changed(frame, i, byte(x)), rest...)
					c, _, e := crc.Open(bad)
					if e == api.OK && len(c) == len(content) {
						t.Fatalf("Open of %.80v gives a content of the old length", bad)
					}
					seen[e]++
					expectOpen(t, bad)
				}
			}
		}
	}
	for _, e := range []api.Errno{api.OK, api.ErrForm, api.ErrFull, api.ErrTruncated, api.ErrChecksum} {
		if seen[e] == 0 {
			t.Errorf("Open returned %d for no damaged length", e)
		}
	}
	// The content is a byte and its checksum: with the length 1 this is a frame, too.
	checkOpen(t, changed(framed([]byte("a\xe8\xb7\xbe\x43")), 0, 2), []byte("a"), 6, api.OK)
	checkOpen(t, changed(framed([]byte{0, 0, 0, 0}), 0, 0), nil, 5, api.OK)
}

// P9.10

func TestCut(t *testing.T) {
	for _, content := range contents() {
		frame, _ := crc.Frame(content)
		// Of the long ones, some ends: each one costs the bytes before it.
		step := 1 + len(frame)/200
		for end := 0; end < len(frame); end += step {
			checkOpen(t, frame[:end], nil, 0, api.ErrTruncated)
			checkOpen(t, slices.Clone(frame[:end]), nil, 0, api.ErrTruncated)
		}
		for end := max(0, len(frame)-8); end < len(frame); end++ {
			checkOpen(t, frame[:end], nil, 0, api.ErrTruncated)
			checkOpen(t, frame[:end:end], nil, 0, api.ErrTruncated)
		}
		for end := range lengthBytes(content) + 3 {
			checkOpen(t, frame[:end:end], nil, 0, api.ErrTruncated)
		}
	}
}
