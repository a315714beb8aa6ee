package wire_test

import (
	"bytes"
	"math"
	"math/big"
	"slices"
	"strings"
	"testing"

	"papermill/api"
	"papermill/wire"
)

// groupsOf returns a natural number in groups of seven bits: it says a second time what an encoding is, also of numbers that no int has as its code.
func groupsOf(code *big.Int) []byte {
	var b []byte
	rest := new(big.Int).Set(code)
	for len(b) == 0 || rest.Sign() > 0 {
		group := new(big.Int)
		rest.DivMod(rest, big.NewInt(128), group)
		b = append(b, byte(group.Int64())+128)
	}
	b[len(b)-1] -= 128
	return b
}

// codeOf says a second time what the code of an integer is.
func codeOf(n int) *big.Int {
	code := new(big.Int).Mul(big.NewInt(2), big.NewInt(int64(n)))
	if n < 0 {
		code.Neg(code).Sub(code, big.NewInt(1))
	}
	return code
}

// intBytes, textBytes and listBytes are the encodings.
func intBytes(n int) []byte { return groupsOf(codeOf(n)) }

func textBytes(s string) []byte { return slices.Concat(intBytes(len(s)), []byte(s)) }

func listBytes(l ...int) []byte {
	b := intBytes(len(l))
	for _, n := range l {
		b = append(b, intBytes(n)...)
	}
	return b
}

// wantInt is what TakeInt must return.
func wantInt(b []byte) (int, int, api.Errno) {
	last := slices.IndexFunc(b, func(x byte) bool { return x < 128 })
	// The tenth byte is looked at if no byte before it is the last one.
	if len(b) >= 10 && (last < 0 || last >= 9) && b[9] > 1 {
		return 0, 0, api.ErrOverflow
	}
	if last < 0 {
		return 0, 0, api.ErrTruncated
	}
	if last > 0 && b[last] == 0 {
		return 0, 0, api.ErrForm
	}
	code := new(big.Int)
	for _, x := range slices.Backward(b[:last+1]) {
		code.Mul(code, big.NewInt(128)).Add(code, big.NewInt(int64(x%128)))
	}
	half, odd := new(big.Int).DivMod(code, big.NewInt(2), new(big.Int))
	if odd.Sign() > 0 {
		half.Neg(half).Sub(half, big.NewInt(1))
	}
	return int(half.Int64()), last + 1, api.OK
}

func wantLength(b []byte, most int) (int, int, api.Errno) {
	n, used, e := wantInt(b)
	if e != api.OK {
		return 0, 0, e
	}
	if n < 0 {
		return 0, 0, api.ErrForm
	}
	if n > most {
		return 0, 0, api.ErrFull
	}
	return n, used, api.OK
}

// wantText is what TakeText must return.
func wantText(b []byte, most int) (string, int, api.Errno) {
	n, used, e := wantLength(b, most)
	if e != api.OK {
		return "", 0, e
	}
	if rest := b[used:]; len(rest) >= n {
		return string(rest[:n]), used + n, api.OK
	}
	return "", 0, api.ErrTruncated
}

// wantList is what TakeList must return.
func wantList(b []byte, most int) ([]int, int, api.Errno) {
	n, at, e := wantLength(b, most)
	if e != api.OK {
		return nil, 0, e
	}
	l := []int{}
	for len(l) < n {
		element, used, e := wantInt(b[at:])
		if e != api.OK {
			return nil, 0, e
		}
		l, at = append(l, element), at+used
	}
	return l, at, api.OK
}

// pattern returns n bytes of which neighbours differ.
func pattern(n int) []byte {
	b := make([]byte, n)
	for i := range b {
		b[i] = byte(i*37 + 165)
	}
	return b
}

// spoil writes other bytes wherever memory could be shared.
func spoil(b []byte) {
	b = b[:cap(b)]
	for i := range b {
		b[i] ^= 0x5a
	}
}

// checkPut puts to b of several lengths, with more and less memory behind it than is needed.
func checkPut(t *testing.T, want []byte, put func(b []byte) []byte) {
	t.Helper()
	if got := put(nil); !bytes.Equal(got, want) {
		t.Fatalf("put to nil = %.80v, not %.80v", got, want)
	}
	for _, length := range []int{0, 1, 2, 9, 100} {
		for _, behind := range []int{0, 1, 2, 8, len(want) - 1, len(want), len(want) + 1, len(want) + 100} {
			memory := pattern(length + behind)
			kept := slices.Clone(memory)
			b := memory[:length]
			all := slices.Concat(kept[:length], want)
			first, second := put(b), put(b)
			if !bytes.Equal(first, all) || !bytes.Equal(second, all) {
				t.Fatalf("put to %d bytes with %d behind = %.80v and %.80v, not %.80v", length, behind, first, second, all)
			}
			if !bytes.Equal(memory, kept) {
				t.Fatalf("put to %d bytes changed them or the %d behind", length, behind)
			}
			spoil(first)
			if !bytes.Equal(memory, kept) || !bytes.Equal(second, all) {
				t.Fatalf("what was put to %d bytes with %d behind shares memory", length, behind)
			}
			spoil(memory)
			if !bytes.Equal(second, all) {
				t.Fatalf("what was put to %d bytes with %d behind shares memory with them", length, behind)
			}
		}
	}
}

func checkPutInt(t *testing.T, n int, want []byte) {
	t.Helper()
	checkPut(t, want, func(b []byte) []byte { return wire.PutInt(b, n) })
}

func checkPutText(t *testing.T, s string, want []byte) {
	t.Helper()
	checkPut(t, want, func(b []byte) []byte { return wire.PutText(b, s) })
}

// checkPutList gives a slice that has more elements than it is given with.
func checkPutList(t *testing.T, l []int, want []byte) {
	t.Helper()
	given := append(slices.Clone(l), 7, -7, math.MinInt)
	kept := slices.Clone(given)
	checkPut(t, want, func(b []byte) []byte { return wire.PutList(b, given[:len(l)]) })
	if !slices.Equal(given, kept) {
		t.Fatalf("PutList changed its list %.80v to %.80v", kept, given)
	}
}

// checkTaken checks what all that is taken has in common; again is what Put gives for it.
func checkTaken(t *testing.T, b []byte, kept []byte, again []byte, used int, e api.Errno) {
	t.Helper()
	if !bytes.Equal(b, kept) {
		t.Fatalf("taking changed %.80v to %.80v", kept, b)
	}
	if e == api.OK && (used < 1 || used > len(b) || !bytes.Equal(again, b[:used])) {
		t.Fatalf("what was taken from %.80v in %d bytes is put as %.80v", b, used, again)
	}
}

func checkInt(t *testing.T, b []byte, want, wantUsed int, wantE api.Errno) {
	t.Helper()
	kept := slices.Clone(b)
	n, used, e := wire.TakeInt(b)
	if n != want || used != wantUsed || e != wantE {
		t.Fatalf("TakeInt of %d bytes (%.80v) = %d, %d, %d, not %d, %d, %d", len(b), b, n, used, e, want, wantUsed, wantE)
	}
	checkTaken(t, b, kept, wire.PutInt(nil, n), used, e)
}

func checkText(t *testing.T, b []byte, most int, want string, wantUsed int, wantE api.Errno) {
	t.Helper()
	kept := slices.Clone(b)
	s, used, e := wire.TakeText(b, most)
	if s != want || used != wantUsed || e != wantE {
		t.Fatalf("TakeText of %d bytes (%.80v), %d = %.80q, %d, %d, not %.80q, %d, %d", len(b), b, most, s, used, e, want, wantUsed, wantE)
	}
	checkTaken(t, b, kept, wire.PutText(nil, s), used, e)
}

func checkList(t *testing.T, b []byte, most int, want []int, wantUsed int, wantE api.Errno) {
	t.Helper()
	kept := slices.Clone(b)
	l, used, e := wire.TakeList(b, most)
	if !slices.Equal(l, want) || used != wantUsed || e != wantE {
		t.Fatalf("TakeList of %d bytes (%.80v), %d = %d elements (%.80v), %d, %d, not %d (%.80v), %d, %d", len(b), b, most, len(l), l, used, e, len(want), want, wantUsed, wantE)
	}
	checkTaken(t, b, kept, wire.PutList(nil, l), used, e)
}

// expectInt, expectText and expectList check what is computed a second time.
func expectInt(t *testing.T, b []byte) {
	t.Helper()
	n, used, e := wantInt(b)
	checkInt(t, b, n, used, e)
}

func expectText(t *testing.T, b []byte, most int) {
	t.Helper()
	s, used, e := wantText(b, most)
	checkText(t, b, most, s, used, e)
}

func expectList(t *testing.T, b []byte, most int) {
	t.Helper()
	l, used, e := wantList(b, most)
	checkList(t, b, most, l, used, e)
}

// integers are small ones and those around all powers of two, so around each length of an encoding.
func integers() []int {
	var l []int
	for n := -300; n <= 300; n++ {
		l = append(l, n)
	}
	for k := range 63 {
		for d := -3; d <= 3; d++ {
			l = append(l, 1<<k+d, -1<<k+d)
		}
	}
	for d := range 4 {
		l = append(l, math.MaxInt-d, math.MinInt+d)
	}
	slices.Sort(l)
	return slices.Compact(l)
}

// bytesOver returns all bytes of at most n of some.
func bytesOver(some []byte, n int) [][]byte {
	l := [][]byte{nil}
	for begin := 0; n > 0; n-- {
		end := len(l)
		for _, b := range l[begin:end] {
			for _, x := range some {
				l = append(l, append(slices.Clone(b), x))
			}
		}
		begin = end
	}
	return l
}

// random returns numbers in an order without a rule, the same ones in every run.
func random() func(n int) int {
	x := uint32(1)
	return func(n int) int {
		x = x*1664525 + 1013904223
		return int(x>>8) % n
	}
}

// tenBytes returns nine times a byte, and one byte.
func tenBytes(nine, tenth byte) []byte {
	return append(bytes.Repeat([]byte{nine}, 9), tenth)
}

// follow are bytes that may follow an encoding.
func follow() [][]byte {
	return [][]byte{nil, {0}, {1}, {2}, {127}, {128}, {255}, {0, 0}, {128, 0}, {128, 1}, bytes.Repeat([]byte{128}, 20), bytes.Repeat([]byte{255}, 20), make([]byte, 20), []byte("text")}
}

// words are strings of lengths around those at which the encoding of the length grows, of bytes of all kinds.
func words() []string {
	l := []string{"a", "ab", "a\x00b", "\x00", "\n", "\"", "\xff", "\x80", "\xc3", "é", "纸", "📜", "\xed\xa0\x80", "\xc0\x80", "a\xffb", "\ufeff", "\ufffd"}
	for _, n := range []int{0, 1, 2, 62, 63, 64, 65, 127, 128, 255, 256, 8191, 8192} {
		l = append(l, strings.Repeat("x", n), strings.Repeat("\x00", n), strings.Repeat("\xff", n), string(pattern(n)))
	}
	return l
}

// lists have elements of one byte and of ten bytes, and those between, side by side.
func lists() [][]int {
	l := [][]int{nil, {}, {0}, {-1}, {1}, {63}, {64}, {-64}, {-65}, {math.MaxInt}, {math.MinInt}, {1, 2, 3}, {3, 2, 1}, {0, 0}, {5, 5, 5}, {1, -1, 64}, {0, math.MinInt, 0, math.MaxInt, -1, 1 << 62, -1 << 62, 63}, {math.MaxInt, 0}, integers()}
	for _, n := range []int{1, 2, 62, 63, 64, 65, 8191, 8192} {
		l = append(l, make([]int, n), slices.Repeat([]int{math.MinInt}, n))
		mixed := make([]int, n)
		for i := range mixed {
			mixed[i] = i - n/2
			if i%2 == 1 {
				mixed[i] = math.MaxInt - i
			}
		}
		l = append(l, mixed)
	}
	return l
}

// P8.1

func TestPutIntExamples(t *testing.T) {
	for _, c := range []struct {
		n int
		b []byte
	}{
		{0, []byte{0}}, {-1, []byte{1}}, {1, []byte{2}}, {-2, []byte{3}}, {2, []byte{4}}, {5, []byte{10}}, {63, []byte{126}}, {-64, []byte{127}},
		{64, []byte{128, 1}}, {-65, []byte{129, 1}}, {65, []byte{130, 1}}, {127, []byte{254, 1}}, {-128, []byte{255, 1}}, {128, []byte{128, 2}}, {300, []byte{216, 4}}, {1000, []byte{208, 15}}, {-1000, []byte{207, 15}},
		{8191, []byte{254, 127}}, {-8192, []byte{255, 127}}, {8192, []byte{128, 128, 1}}, {-8193, []byte{129, 128, 1}},
		{1<<62 - 1, []byte{254, 255, 255, 255, 255, 255, 255, 255, 127}}, {-1 << 62, []byte{255, 255, 255, 255, 255, 255, 255, 255, 127}}, {1 << 62, tenBytes(128, 1)}, {-1<<62 - 1, []byte{129, 128, 128, 128, 128, 128, 128, 128, 128, 1}},
		{math.MaxInt, []byte{254, 255, 255, 255, 255, 255, 255, 255, 255, 1}}, {math.MinInt, tenBytes(255, 1)},
	} {
		checkPutInt(t, c.n, c.b)
		checkInt(t, c.b, c.n, len(c.b), api.OK)
	}
}

func TestPutInt(t *testing.T) {
	for _, n := range integers() {
		checkPutInt(t, n, intBytes(n))
	}
}

// The greatest and the smallest integer of each length, and the next ones, which need a byte more.
func TestPutIntLengths(t *testing.T) {
	for length := 1; length <= 9; length++ {
		half := 1 << (7*length - 1)
		for n, want := range map[int]int{half - 1: length, -half: length, half: length + 1, -half - 1: length + 1} {
			if b := wire.PutInt(nil, n); len(b) != want {
				t.Errorf("PutInt of %d has %d bytes, not %d", n, len(b), want)
			}
		}
	}
	for _, n := range []int{math.MaxInt, math.MinInt} {
		if b := wire.PutInt(nil, n); len(b) != 10 {
			t.Errorf("PutInt of %d has %d bytes", n, len(b))
		}
	}
}

func TestPutTextExamples(t *testing.T) {
	for _, c := range []struct {
		s string
		b []byte
	}{
		{"", []byte{0}}, {"a", []byte{2, 97}}, {"ab", []byte{4, 97, 98}}, {"ba", []byte{4, 98, 97}}, {"\x00", []byte{2, 0}}, {"\x80\x00\xff", []byte{6, 128, 0, 255}}, {"é", []byte{4, 0xc3, 0xa9}},
		{strings.Repeat("a", 63), append([]byte{126}, bytes.Repeat([]byte{97}, 63)...)}, {strings.Repeat("a", 64), append([]byte{128, 1}, bytes.Repeat([]byte{97}, 64)...)},
	} {
		checkPutText(t, c.s, c.b)
		checkText(t, c.b, len(c.s), c.s, len(c.b), api.OK)
	}
}

func TestPutText(t *testing.T) {
	for _, s := range words() {
		checkPutText(t, s, textBytes(s))
	}
	for x := range 256 {
		s := string([]byte{byte(x)})
		checkPutText(t, s, []byte{2, byte(x)})
		checkPutText(t, "a"+s+"b", []byte{6, 97, byte(x), 98})
	}
	for _, n := range []int{1<<20 - 1, 1 << 20, 1<<20 + 1} {
		s := string(pattern(n))
		checkPutText(t, s, textBytes(s))
	}
}

func TestPutListExamples(t *testing.T) {
	for _, c := range []struct {
		l []int
		b []byte
	}{
		{nil, []byte{0}}, {[]int{}, []byte{0}}, {[]int{0}, []byte{2, 0}}, {[]int{0, 0}, []byte{4, 0, 0}}, {[]int{-1}, []byte{2, 1}}, {[]int{1, -1, 64}, []byte{6, 2, 1, 128, 1}}, {[]int{64, -1, 1}, []byte{6, 128, 1, 1, 2}},
		{[]int{0, math.MinInt, 1}, slices.Concat([]byte{6, 0}, tenBytes(255, 1), []byte{2})}, {[]int{1 << 62, 0, 1 << 62}, slices.Concat([]byte{6}, tenBytes(128, 1), []byte{0}, tenBytes(128, 1))},
		{make([]int, 63), append([]byte{126}, make([]byte, 63)...)}, {make([]int, 64), append([]byte{128, 1}, make([]byte, 64)...)},
	} {
		checkPutList(t, c.l, c.b)
		checkList(t, c.b, len(c.l), c.l, len(c.b), api.OK)
	}
}

func TestPutList(t *testing.T) {
	for _, l := range lists() {
		checkPutList(t, l, listBytes(l...))
	}
	for _, n := range integers() {
		checkPutList(t, []int{n}, listBytes(n))
		checkPutList(t, []int{1, n, math.MaxInt, n}, listBytes(1, n, math.MaxInt, n))
	}
}

// What is put to a slice with room behind it is put again to what came out: both ways from one beginning stay as they are.
func TestPutTwiceFromOneBeginning(t *testing.T) {
	begin := make([]byte, 1, 1000)
	for _, put := range []func(b []byte, n int) []byte{
		wire.PutInt,
		func(b []byte, n int) []byte { return wire.PutText(b, strings.Repeat("x", n)) },
		func(b []byte, n int) []byte { return wire.PutList(b, []int{n, n}) },
	} {
		common := put(begin, 5)
		first := put(common, 6)
		kept := slices.Clone(first)
		second := put(common, 7)
		if !bytes.Equal(first, kept) || bytes.Equal(first, second) || !bytes.HasPrefix(first, common) || !bytes.HasPrefix(second, common) {
			t.Errorf("%v was put, then %v, after which the first is %v", kept, second, first)
		}
	}
}

// P8.2

func TestTakeIntExamples(t *testing.T) {
	for _, c := range []struct {
		b       []byte
		n, used int
		e       api.Errno
	}{
		{nil, 0, 0, api.ErrTruncated}, {[]byte{}, 0, 0, api.ErrTruncated}, {[]byte{128}, 0, 0, api.ErrTruncated}, {[]byte{255, 255}, 0, 0, api.ErrTruncated}, {[]byte{128, 128}, 0, 0, api.ErrTruncated},
		{[]byte{128, 0}, 0, 0, api.ErrForm}, {[]byte{255, 0}, 0, 0, api.ErrForm}, {[]byte{129, 0, 1}, 0, 0, api.ErrForm}, {[]byte{128, 128, 0}, 0, 0, api.ErrForm}, {[]byte{255, 128, 0}, 0, 0, api.ErrForm},
		{[]byte{0}, 0, 1, api.OK}, {[]byte{0, 0}, 0, 1, api.OK}, {[]byte{0, 128}, 0, 1, api.OK}, {[]byte{1}, -1, 1, api.OK}, {[]byte{2}, 1, 1, api.OK}, {[]byte{126}, 63, 1, api.OK}, {[]byte{127}, -64, 1, api.OK}, {[]byte{127, 255}, -64, 1, api.OK},
		{[]byte{128, 1}, 64, 2, api.OK}, {[]byte{129, 1}, -65, 2, api.OK}, {[]byte{216, 4, 7}, 300, 2, api.OK}, {[]byte{128, 128, 1}, 8192, 3, api.OK},
		{tenBytes(128, 1), 1 << 62, 10, api.OK}, {tenBytes(255, 1), math.MinInt, 10, api.OK}, {tenBytes(128, 0), 0, 0, api.ErrForm}, {tenBytes(255, 0), 0, 0, api.ErrForm}, {tenBytes(128, 2), 0, 0, api.ErrOverflow}, {tenBytes(255, 127), 0, 0, api.ErrOverflow}, {tenBytes(128, 128), 0, 0, api.ErrOverflow},
		{tenBytes(128, 1)[:9], 0, 0, api.ErrTruncated}, {tenBytes(255, 255)[:9], 0, 0, api.ErrTruncated},
	} {
		checkInt(t, c.b, c.n, c.used, c.e)
		expectInt(t, c.b)
	}
}

func TestTakeIntOfShortBytes(t *testing.T) {
	var all []byte
	for x := range 256 {
		all = append(all, byte(x))
	}
	for _, b := range bytesOver(all, 2) {
		expectInt(t, b)
	}
	for _, b := range bytesOver([]byte{0, 1, 2, 63, 64, 126, 127, 128, 129, 254, 255}, 4) {
		expectInt(t, b)
	}
	for _, b := range bytesOver([]byte{0, 1, 2, 128, 255}, 7) {
		expectInt(t, b)
	}
	for _, b := range bytesOver([]byte{0, 1, 128}, 11) {
		expectInt(t, b)
	}
}

// Each byte stands at each place behind bytes that are not the last one, at the end of b and before other bytes.
func TestTakeIntByteByByte(t *testing.T) {
	for _, before := range []byte{128, 129, 170, 255} {
		for i := range 14 {
			for x := range 256 {
				b := append(bytes.Repeat([]byte{before}, i), byte(x))
				wantE := api.OK
				switch {
				case i > 9 || i == 9 && x > 1:
					wantE = api.ErrOverflow
				case x >= 128:
					wantE = api.ErrTruncated
				case x == 0 && i > 0:
					wantE = api.ErrForm
				}
				if _, _, e := wire.TakeInt(b); e != wantE {
					t.Fatalf("TakeInt of %v = %d, not %d", b, e, wantE)
				}
				for _, rest := range follow() {
					expectInt(t, slices.Concat(b, rest))
				}
			}
		}
	}
}

// The codes beyond 2^64 - 1 are natural numbers whose groups are well formed, but no codes of integers.
func TestTakeIntOverflow(t *testing.T) {
	for k := uint(64); k <= 160; k++ {
		for d := int64(-3); d <= 3; d++ {
			code := new(big.Int).Add(new(big.Int).Lsh(big.NewInt(1), k), big.NewInt(d))
			if code.BitLen() > 64 {
				checkInt(t, groupsOf(code), 0, 0, api.ErrOverflow)
			}
		}
	}
	for _, n := range []int{10, 11, 12, 255, 256, 257, 1 << 16, 1 << 20} {
		for _, x := range []byte{128, 129, 255} {
			b := bytes.Repeat([]byte{x}, n)
			checkInt(t, b, 0, 0, api.ErrOverflow)
			checkInt(t, append(b, 0), 0, 0, api.ErrOverflow)
			checkInt(t, append(b, 1), 0, 0, api.ErrOverflow)
		}
	}
}

// The bytes behind the end of b, which would go on with the integer, do not count.
func TestTakeIntTruncated(t *testing.T) {
	for _, n := range integers() {
		b := append(intBytes(n), 1, 2, 3)
		for end := range len(intBytes(n)) {
			checkInt(t, b[:end], 0, 0, api.ErrTruncated)
			checkInt(t, slices.Clone(b[:end]), 0, 0, api.ErrTruncated)
		}
	}
}

// With groups of 0 at its end, the code has the same value but more bytes than are needed.
func TestTakeIntOneEncoding(t *testing.T) {
	for _, n := range integers() {
		b := intBytes(n)
		for len(b) < 14 {
			b[len(b)-1] += 128
			b = append(b, 0)
			wantE := api.ErrForm
			// With more than ten bytes, the tenth one is one of 128 or more.
			if len(b) > 10 {
				wantE = api.ErrOverflow
			}
			checkInt(t, b, 0, 0, wantE)
			checkInt(t, append(slices.Clone(b), 1), 0, 0, wantE)
		}
	}
}

// P8.3

// lengths are claimed where fewer bytes are there: a multiple of 2^8, 2^16 or 2^32 and a bit more would be small in fewer bits.
func lengths() []int {
	l := []int{3, 63, 64, 127, 128, 255, 256, 257, 258, 1 << 15, 1<<16 - 1, 1 << 16, 1<<16 + 1, 1<<16 + 2, 1 << 30, math.MaxInt32 - 1, math.MaxInt32, 1 << 31, math.MaxUint32, 1 << 32, 1<<32 + 1, 1<<32 + 2, 1 << 40, 1 << 60, 1<<61 - 1, 1 << 61, 1 << 62}
	for d := range 12 {
		l = append(l, math.MaxInt-d)
	}
	return l
}

// noInts are bytes at the beginning of which there is no integer, with the errors of TakeInt, whatever follows.
func noInts() map[string]api.Errno {
	return map[string]api.Errno{
		"\x80\x00": api.ErrForm, "\x82\x00": api.ErrForm, "\xff\x80\x00": api.ErrForm, "\x81\x80\x80\x00": api.ErrForm, string(tenBytes(128, 0)): api.ErrForm,
		string(tenBytes(128, 2)): api.ErrOverflow, string(tenBytes(130, 255)): api.ErrOverflow, string(tenBytes(255, 128)): api.ErrOverflow,
	}
}

// mosts are limits of all kinds, together with those around a length.
func mosts(length int) []int {
	l := []int{math.MinInt, math.MinInt + 1, -1 << 32, -1000, -2, -1, 0, 1, 2, 1000, 1 << 31, 1 << 32, math.MaxInt - 1, math.MaxInt}
	// Beyond the greatest int this is the smallest one, which is as good.
	return append(l, length-1, length, length+1)
}

// refuseLengths calls refused with bytes at whose beginning there is no length, and with all kinds of limits, which do not matter then.
func refuseLengths(refused func(b []byte, most int, wantE api.Errno)) {
	for _, most := range mosts(0) {
		for b, e := range noInts() {
			refused([]byte(b), most, e)
			refused([]byte(b+"abc"), most, e)
		}
		for i := range 10 {
			refused(tenBytes(128, 1)[:i], most, api.ErrTruncated)
		}
		for _, n := range integers() {
			if n < 0 {
				refused(intBytes(n), most, api.ErrForm)
				refused(append(intBytes(n), "abc"...), most, api.ErrForm)
				refused(append(intBytes(n), 0, 128, 0), most, api.ErrForm)
			}
		}
	}
}

func TestTakeTextExamples(t *testing.T) {
	for _, c := range []struct {
		b    []byte
		most int
		s    string
		used int
		e    api.Errno
	}{
		{[]byte{0}, 0, "", 1, api.OK}, {[]byte{0, 97}, 0, "", 1, api.OK}, {[]byte{0}, math.MaxInt, "", 1, api.OK}, {[]byte{2, 97}, 1, "a", 2, api.OK}, {[]byte{2, 97, 98}, 1, "a", 2, api.OK}, {[]byte{4, 97, 98}, 2, "ab", 3, api.OK}, {[]byte{4, 97, 98, 99}, 3, "ab", 3, api.OK}, {[]byte{4, 0, 255, 0}, math.MaxInt, "\x00\xff", 3, api.OK},
		{nil, 9, "", 0, api.ErrTruncated}, {nil, -1, "", 0, api.ErrTruncated}, {[]byte{128}, 0, "", 0, api.ErrTruncated}, {[]byte{132, 0, 97, 98}, 9, "", 0, api.ErrForm}, {tenBytes(128, 2), math.MaxInt, "", 0, api.ErrOverflow},
		{[]byte{1}, 9, "", 0, api.ErrForm}, {[]byte{1}, 0, "", 0, api.ErrForm}, {[]byte{1}, -1, "", 0, api.ErrForm}, {[]byte{1}, -2, "", 0, api.ErrForm}, {[]byte{1}, math.MinInt, "", 0, api.ErrForm}, {[]byte{3, 97, 98}, 9, "", 0, api.ErrForm},
		{[]byte{0}, -1, "", 0, api.ErrFull}, {[]byte{0}, math.MinInt, "", 0, api.ErrFull}, {[]byte{2, 97}, 0, "", 0, api.ErrFull}, {[]byte{4, 97, 98}, 1, "", 0, api.ErrFull}, {[]byte{4}, 1, "", 0, api.ErrFull}, {[]byte{4, 97}, -5, "", 0, api.ErrFull},
		{[]byte{2}, 1, "", 0, api.ErrTruncated}, {[]byte{4}, 2, "", 0, api.ErrTruncated}, {[]byte{4, 97}, 2, "", 0, api.ErrTruncated}, {[]byte{4, 97}, math.MaxInt, "", 0, api.ErrTruncated}, {[]byte{128, 1, 97}, 64, "", 0, api.ErrTruncated},
		{intBytes(math.MaxInt), math.MaxInt, "", 0, api.ErrTruncated}, {append(intBytes(math.MaxInt), 97), math.MaxInt, "", 0, api.ErrTruncated}, {append(intBytes(math.MaxInt), 97), math.MaxInt - 1, "", 0, api.ErrFull},
	} {
		checkText(t, c.b, c.most, c.s, c.used, c.e)
		expectText(t, c.b, c.most)
	}
}

func TestTakeTextErrorsInOrder(t *testing.T) {
	refuseLengths(func(b []byte, most int, wantE api.Errno) { checkText(t, b, most, "", 0, wantE) })
	for _, n := range lengths() {
		for _, most := range mosts(n) {
			wantE := api.ErrTruncated
			if n > most {
				wantE = api.ErrFull
			}
			for _, rest := range []string{"", "a", "ab"} {
				checkText(t, append(intBytes(n), rest...), most, "", 0, wantE)
			}
		}
	}
}

// The bytes of the text end at each place; those behind the end of b do not count.
func TestTakeTextTruncated(t *testing.T) {
	for _, s := range words() {
		b := append(textBytes(s), "behind"...)
		for _, most := range mosts(len(s)) {
			expectText(t, b, most)
			expectText(t, textBytes(s), most)
		}
		for end := range len(textBytes(s)) {
			checkText(t, b[:end], len(s), "", 0, api.ErrTruncated)
			checkText(t, b[:end:end], math.MaxInt, "", 0, api.ErrTruncated)
		}
	}
}

func TestTakeTextOfShortBytes(t *testing.T) {
	for _, b := range bytesOver([]byte{0, 1, 2, 3, 4, 6, 97, 128, 130, 255}, 5) {
		for most := -1; most <= 3; most++ {
			expectText(t, b, most)
		}
	}
}

func TestTakeTextKeepsNothingOfTheBytes(t *testing.T) {
	for _, s := range words() {
		b := textBytes(s)
		first, _, _ := wire.TakeText(b, len(s))
		second, _, _ := wire.TakeText(b, len(s))
		spoil(b)
		if first != s || second != s {
			t.Fatalf("TakeText of %.80q is %.80q and %.80q after the bytes were changed", s, first, second)
		}
	}
}

// P8.4

func TestTakeListExamples(t *testing.T) {
	for _, c := range []struct {
		b    []byte
		most int
		l    []int
		used int
		e    api.Errno
	}{
		{[]byte{0}, 0, nil, 1, api.OK}, {[]byte{0, 128}, 0, nil, 1, api.OK}, {[]byte{0}, math.MaxInt, nil, 1, api.OK}, {[]byte{2, 0}, 1, []int{0}, 2, api.OK}, {[]byte{2, 1, 128}, 1, []int{-1}, 2, api.OK}, {[]byte{6, 2, 1, 128, 1, 9}, 3, []int{1, -1, 64}, 5, api.OK}, {[]byte{4, 129, 1, 0, 0}, math.MaxInt, []int{-65, 0}, 4, api.OK},
		{nil, 9, nil, 0, api.ErrTruncated}, {nil, -1, nil, 0, api.ErrTruncated}, {[]byte{128}, 0, nil, 0, api.ErrTruncated}, {[]byte{130, 0, 1}, 9, nil, 0, api.ErrForm}, {tenBytes(128, 2), math.MaxInt, nil, 0, api.ErrOverflow},
		{[]byte{1}, 9, nil, 0, api.ErrForm}, {[]byte{1}, 0, nil, 0, api.ErrForm}, {[]byte{1}, -1, nil, 0, api.ErrForm}, {[]byte{1}, math.MinInt, nil, 0, api.ErrForm}, {[]byte{3, 1, 1}, 9, nil, 0, api.ErrForm},
		{[]byte{0}, -1, nil, 0, api.ErrFull}, {[]byte{0}, math.MinInt, nil, 0, api.ErrFull}, {[]byte{2, 0}, 0, nil, 0, api.ErrFull}, {[]byte{4, 0, 0}, 1, nil, 0, api.ErrFull}, {[]byte{4}, 1, nil, 0, api.ErrFull}, {[]byte{4, 128, 0}, 1, nil, 0, api.ErrFull},
		{[]byte{2}, 1, nil, 0, api.ErrTruncated}, {[]byte{4, 0}, 2, nil, 0, api.ErrTruncated}, {[]byte{4, 0, 128}, 2, nil, 0, api.ErrTruncated}, {[]byte{4, 128, 1}, 2, nil, 0, api.ErrTruncated}, {[]byte{4, 128, 0}, 2, nil, 0, api.ErrForm}, {[]byte{4, 0, 255, 0}, 2, nil, 0, api.ErrForm}, {append([]byte{4, 0}, tenBytes(255, 2)...), 2, nil, 0, api.ErrOverflow},
		{intBytes(math.MaxInt), math.MaxInt, nil, 0, api.ErrTruncated}, {append(intBytes(math.MaxInt), 0, 1), math.MaxInt, nil, 0, api.ErrTruncated}, {append(intBytes(math.MaxInt), 0, 128, 0), math.MaxInt, nil, 0, api.ErrForm}, {append(intBytes(math.MaxInt), 0, 128, 0), math.MaxInt - 1, nil, 0, api.ErrFull},
	} {
		checkList(t, c.b, c.most, c.l, c.used, c.e)
		expectList(t, c.b, c.most)
	}
}

func TestTakeListErrorsInOrder(t *testing.T) {
	refuseLengths(func(b []byte, most int, wantE api.Errno) { checkList(t, b, most, nil, 0, wantE) })
}

// The lengths are far beyond the bytes that are there; an element that is no integer comes before the end of the bytes.
func TestTakeListOfGreatLengths(t *testing.T) {
	for _, n := range lengths() {
		for _, most := range mosts(n) {
			for _, elements := range [][]byte{nil, {0}, {0, 2}, {128}, {0, 128}, tenBytes(255, 1), tenBytes(255, 1)[:9]} {
				b := slices.Concat(intBytes(n), elements)
				if n > most {
					checkList(t, b, most, nil, 0, api.ErrFull)
					continue
				}
				checkList(t, b, most, nil, 0, api.ErrTruncated)
				for bad, e := range noInts() {
					if len(elements) == 0 || elements[len(elements)-1] < 128 {
						checkList(t, append(slices.Clone(b), bad...), most, nil, 0, e)
					}
				}
			}
		}
	}
}

// The first element that is no integer decides; those behind the last element do not count.
func TestTakeListElementByElement(t *testing.T) {
	elements := [][]byte{{0}, {127}, {128, 1}, tenBytes(255, 1), {128, 0}, tenBytes(128, 2), {128}}
	all := [][]byte{nil}
	for begin := 0; len(all) < 2000; {
		end := len(all)
		for _, b := range all[begin:end] {
			for _, element := range elements {
				all = append(all, slices.Concat(b, element))
			}
		}
		begin = end
	}
	for _, b := range all {
		for _, n := range []int{0, 1, 2, 3, 4, 5, 6, math.MaxInt} {
			expectList(t, append(intBytes(n), b...), n)
		}
	}
}

// The bytes of the list end at each place; those behind the end of b do not count.
func TestTakeListTruncated(t *testing.T) {
	for _, l := range lists() {
		b := append(listBytes(l...), 1, 2, 3)
		for _, most := range mosts(len(l)) {
			expectList(t, b, most)
			expectList(t, b[:len(b)-3], most)
		}
		// Of the long ones, some ends: each one costs the elements before it.
		step := 1 + len(b)/300
		for end := 0; end < len(b)-3; end += step {
			checkList(t, b[:end], len(l), nil, 0, api.ErrTruncated)
			checkList(t, b[:end:end], math.MaxInt, nil, 0, api.ErrTruncated)
		}
		if len(l) > 0 {
			checkList(t, b[:len(b)-4], len(l), nil, 0, api.ErrTruncated)
		}
	}
}

func TestTakeListOfShortBytes(t *testing.T) {
	for _, b := range bytesOver([]byte{0, 1, 2, 3, 4, 6, 127, 128, 130, 255}, 5) {
		for most := -1; most <= 3; most++ {
			expectList(t, b, most)
		}
	}
}

func TestTakeListIsNewMemory(t *testing.T) {
	for _, l := range lists() {
		b := listBytes(l...)
		first, _, _ := wire.TakeList(b, len(l))
		second, _, _ := wire.TakeList(b, len(l))
		spoil(b)
		first = first[:cap(first)]
		for i := range first {
			first[i] = 12345
		}
		if !slices.Equal(second, l) {
			t.Fatalf("TakeList of %.80v is %.80v after another result and the bytes were changed", l, second)
		}
	}
}

// P8.5

func TestIntsThereAndBack(t *testing.T) {
	for _, n := range integers() {
		b := wire.PutInt(nil, n)
		for _, rest := range append(follow(), b) {
			checkInt(t, slices.Concat(b, rest), n, len(b), api.OK)
		}
	}
}

func TestTextsThereAndBack(t *testing.T) {
	for _, s := range words() {
		b := wire.PutText(nil, s)
		for _, rest := range append(follow(), b) {
			checkText(t, slices.Concat(b, rest), len(s), s, len(b), api.OK)
			checkText(t, slices.Concat(b, rest), math.MaxInt, s, len(b), api.OK)
		}
	}
	for x := range 256 {
		s := string([]byte{byte(x), 'a', byte(x)})
		checkText(t, append(wire.PutText(nil, s), s...), 3, s, 4, api.OK)
	}
	s := string(pattern(1<<21 + 1))
	checkText(t, wire.PutText(nil, s), len(s), s, len(s)+4, api.OK)
}

func TestListsThereAndBack(t *testing.T) {
	for _, l := range lists() {
		b := wire.PutList(nil, l)
		for _, rest := range append(follow(), b) {
			checkList(t, slices.Concat(b, rest), len(l), l, len(b), api.OK)
			checkList(t, slices.Concat(b, rest), math.MaxInt, l, len(b), api.OK)
		}
	}
	many := slices.Repeat(integers(), 300)
	b := wire.PutList(nil, many)
	if !bytes.Equal(b, listBytes(many...)) {
		t.Errorf("PutList of %d elements gives other bytes", len(many))
	}
	checkList(t, b, len(many), many, len(b), api.OK)
	checkList(t, b[:len(b)-1], len(many), nil, 0, api.ErrTruncated)
}

// Integers, strings and lists stand one behind the other and are taken in their order. Each Put copies all bytes before, so the strings and lists are short.
func TestAllKindsOneBehindTheOther(t *testing.T) {
	ints := integers()
	texts := slices.DeleteFunc(words(), func(s string) bool { return len(s) > 65 })
	all := slices.DeleteFunc(lists(), func(l []int) bool { return len(l) > 65 })
	b := []byte("begin")
	for i, n := range ints {
		b = wire.PutInt(b, n)
		b = wire.PutText(b, texts[i%len(texts)])
		b = wire.PutList(b, all[i%len(all)])
	}
	rest := b[len("begin"):]
	for i, n := range ints {
		m, used, e := wire.TakeInt(rest)
		if m != n || e != api.OK {
			t.Fatalf("integer %d is %d, %d, not %d", i, m, e, n)
		}
		rest = rest[used:]
		s, used, e := wire.TakeText(rest, math.MaxInt)
		if want := texts[i%len(texts)]; s != want || e != api.OK {
			t.Fatalf("text %d is %.80q, %d, not %.80q", i, s, e, want)
		}
		rest = rest[used:]
		l, used, e := wire.TakeList(rest, math.MaxInt)
		if want := all[i%len(all)]; !slices.Equal(l, want) || e != api.OK {
			t.Fatalf("list %d is %.80v, %d, not %.80v", i, l, e, want)
		}
		rest = rest[used:]
	}
	if len(rest) > 0 {
		t.Errorf("%d bytes are left", len(rest))
	}
}

// Whatever the bytes are, what is taken from them has just these bytes (which checkTaken finds); they are encodings of which some bytes are changed, added or left out.
func TestTakeFromDamagedBytes(t *testing.T) {
	next := random()
	all := integers()
	taken := map[api.Errno]int{}
	for range 30000 {
		l := make([]int, next(6))
		for i := range l {
			l[i] = all[next(len(all))]
		}
		b := listBytes(l...)
		if next(2) == 0 {
			b = textBytes(string(pattern(next(200))))
		}
		for range next(3) {
			i := next(len(b))
			switch next(3) {
			case 0:
				b[i] = byte(next(256))
			case 1:
				b = slices.Insert(b, i, byte(next(256)))
			default:
				b = slices.Delete(b, i, i+1)
			}
			if len(b) == 0 {
				break
			}
		}
		most := []int{3, 100, math.MaxInt}[next(3)]
		expectInt(t, b)
		expectText(t, b, most)
		expectList(t, b, most)
		_, _, e := wire.TakeList(b, most)
		taken[e]++
	}
	for _, e := range []api.Errno{api.OK, api.ErrForm, api.ErrFull, api.ErrTruncated, api.ErrOverflow} {
		if taken[e] < 30 {
			t.Errorf("TakeList returned %d only %d times", e, taken[e])
		}
	}
}
