package num_test

import (
	"math"
	"math/big"
	"slices"
	"testing"

	"papermill/api"
	"papermill/num"
)

const top = api.MaxNum

var modes = []int{0, 1, 2}

// inside are integers in range: small ones, and those near the root, the half, the third and the end of the range, whose quotients are near its end or between two integers.
func inside() []int {
	l := []int{0}
	for _, n := range []int{1, 2, 3, 4, 5, 6, 7, 10, 12, 18, 97, 1000, 123456789, 1<<25 - 1, 1 << 25, 1<<25 + 1, 1<<32 - 1, 1 << 32, top / 3, 2 * (top / 3), 2*(top/3) + 1, 1 << 49, 1<<49 + 1, top - 3, top - 2, top - 1, top} {
		l = append(l, n, -n)
	}
	return l
}

func outside() []int {
	return []int{top + 1, -top - 1, top + 2, 1 << 51, -1 << 62, 1 << 62, math.MaxInt, math.MaxInt - 1, math.MinInt + 1, math.MinInt}
}

func everywhere() []int { return slices.Concat(inside(), outside()) }

func wide(n int) *big.Int { return big.NewInt(int64(n)) }

// limited is what a function must return whose result without limits is n.
func limited(n *big.Int) (int, api.Errno) {
	if n.CmpAbs(wide(top)) > 0 {
		return 0, api.ErrOverflow
	}
	return int(n.Int64()), api.OK
}

func fits(n int) bool { return n >= -top && n <= top }

// filled has count elements n.
func filled(count int, n int) []int { return slices.Repeat([]int{n}, count) }

// P1.1

func TestAddSubMulExamples(t *testing.T) {
	type call func(a int, b int) (int, api.Errno)
	for _, c := range []struct {
		name string
		f    call
		a, b int
		n    int
		e    api.Errno
	}{
		{"Add", num.Add, 2, 3, 5, api.OK},
		{"Add", num.Add, -7, 7, 0, api.OK},
		{"Add", num.Add, top - 1, 1, top, api.OK},
		{"Add", num.Add, 1 - top, -1, -top, api.OK},
		{"Add", num.Add, top, 1, 0, api.ErrOverflow},
		{"Add", num.Add, -1, -top, 0, api.ErrOverflow},
		{"Add", num.Add, top, top, 0, api.ErrOverflow},
		{"Add", num.Add, top + 1, 0, 0, api.ErrRange},
		{"Add", num.Add, top + 1, -1, 0, api.ErrRange},
		{"Add", num.Add, math.MaxInt, math.MaxInt, 0, api.ErrRange},
		{"Add", num.Add, math.MinInt, math.MinInt, 0, api.ErrRange},
		{"Sub", num.Sub, 2, 3, -1, api.OK},
		{"Sub", num.Sub, -top, -top, 0, api.OK},
		{"Sub", num.Sub, top - 1, -1, top, api.OK},
		{"Sub", num.Sub, 0, top, -top, api.OK},
		{"Sub", num.Sub, top, -1, 0, api.ErrOverflow},
		{"Sub", num.Sub, -top, 1, 0, api.ErrOverflow},
		{"Sub", num.Sub, 0, -top - 1, 0, api.ErrRange},
		{"Sub", num.Sub, math.MinInt, math.MinInt, 0, api.ErrRange},
		{"Mul", num.Mul, -7, 7, -49, api.OK},
		{"Mul", num.Mul, -7, -7, 49, api.OK},
		{"Mul", num.Mul, 0, -top, 0, api.OK},
		{"Mul", num.Mul, 1 << 25, 1 << 25, top, api.OK},
		{"Mul", num.Mul, 1 << 25, -1 << 25, -top, api.OK},
		{"Mul", num.Mul, 1 << 25, 1<<25 + 1, 0, api.ErrOverflow},
		{"Mul", num.Mul, -1 << 25, 1<<25 + 1, 0, api.ErrOverflow},
		{"Mul", num.Mul, 1 << 32, 1 << 32, 0, api.ErrOverflow},
		{"Mul", num.Mul, top, top, 0, api.ErrOverflow},
		{"Mul", num.Mul, 0, top + 1, 0, api.ErrRange},
		{"Mul", num.Mul, math.MinInt, -1, 0, api.ErrRange},
	} {
		if n, e := c.f(c.a, c.b); n != c.n || e != c.e {
			t.Errorf("%s(%d, %d) = %d, %d, not %d, %d", c.name, c.a, c.b, n, e, c.n, c.e)
		}
	}
}

func TestAddSubMulAreExactOrRefused(t *testing.T) {
	type exact func(z *big.Int, a *big.Int, b *big.Int) *big.Int
	for _, c := range []struct {
		name  string
		f     func(a int, b int) (int, api.Errno)
		exact exact
	}{{"Add", num.Add, (*big.Int).Add}, {"Sub", num.Sub, (*big.Int).Sub}, {"Mul", num.Mul, (*big.Int).Mul}} {
		for _, a := range everywhere() {
			for _, b := range everywhere() {
				want, wantError := 0, api.ErrRange
				if fits(a) && fits(b) {
					want, wantError = limited(c.exact(new(big.Int), wide(a), wide(b)))
				}
				if n, e := c.f(a, b); n != want || e != wantError {
					t.Errorf("%s(%d, %d) = %d, %d, not %d, %d", c.name, a, b, n, e, want, wantError)
				}
			}
		}
	}
}

// P1.2

func TestSumOfLists(t *testing.T) {
	for _, c := range []struct {
		name string
		l    []int
		n    int
		e    api.Errno
	}{
		{"nil", nil, 0, api.OK},
		{"no elements", []int{}, 0, api.OK},
		{"one element", []int{5}, 5, api.OK},
		{"the least element", []int{-top}, -top, api.OK},
		{"both signs", []int{1, -2, 3, -4, 7}, 5, api.OK},
		{"the example", []int{top, top, -top}, top, api.OK},
		{"a part below the range", []int{-top, -1, 1}, -top, api.OK},
		{"2^50 + 1", []int{top, 1}, 0, api.ErrOverflow},
		{"-2^50 - 1", []int{-1, -top}, 0, api.ErrOverflow},
		{"the first element is not in range", []int{top + 1, -1}, 0, api.ErrRange},
		{"the last element is not in range", []int{1, -1, -top - 1}, 0, api.ErrRange},
		{"out of range after an overflow", []int{top, top, math.MinInt}, 0, api.ErrRange},
		{"greatest and smallest int", []int{math.MaxInt, math.MinInt}, 0, api.ErrRange},
	} {
		if n, e := num.Sum(c.l); n != c.n || e != c.e {
			t.Errorf("%s: Sum = %d, %d, not %d, %d", c.name, n, e, c.n, c.e)
		}
	}
}

func TestSumOfManyElements(t *testing.T) {
	for _, c := range []struct {
		name string
		l    []int
		n    int
		e    api.Errno
	}{
		{"65536 zeros", filled(65536, 0), 0, api.OK},
		{"65536 elements", filled(65536, 3), 196608, api.OK},
		{"65536 times 2^34", filled(65536, 1<<34), top, api.OK},
		{"65536 times -2^34", filled(65536, -1<<34), -top, api.OK},
		{"65536 times 2^34 + 1", filled(65536, 1<<34+1), 0, api.ErrOverflow},
		{"2^66", filled(65536, top), 0, api.ErrOverflow},
		{"-2^66", filled(65536, -top), 0, api.ErrOverflow},
		{"2^64", filled(16384, top), 0, api.ErrOverflow},
		{"-2^64", filled(16384, -top), 0, api.ErrOverflow},
		{"2^64 + 5", append(filled(16384, top), 5), 0, api.ErrOverflow},
		{"-2^64 - 5", append(filled(16384, -top), -5), 0, api.ErrOverflow},
		{"2^64 - 5", append(filled(16384, top), -5), 0, api.ErrOverflow},
		{"2^63", filled(8192, top), 0, api.ErrOverflow},
		{"-2^63", filled(8192, -top), 0, api.ErrOverflow},
		{"parts up to 2^65", slices.Concat(filled(32768, top), filled(32768, -top)), 0, api.OK},
		{"parts down to -2^65", slices.Concat(filled(32768, -top), filled(32767, top), []int{7}), 7 - top, api.OK},
		{"parts up to 2^63", slices.Concat(filled(8192, top), filled(8191, -top)), top, api.OK},
		{"65537 elements", make([]int, 65537), 0, api.ErrFull},
		{"65537 elements that are not in range", filled(65537, math.MaxInt), 0, api.ErrFull},
		{"65537 elements with a great sum", filled(65537, top), 0, api.ErrFull},
		{"65536 elements that are not in range", filled(65536, math.MinInt), 0, api.ErrRange},
		{"a last element that is not in range", append(filled(65535, top), top+1), 0, api.ErrRange},
	} {
		if n, e := num.Sum(c.l); n != c.n || e != c.e {
			t.Errorf("%s: Sum = %d, %d, not %d, %d", c.name, n, e, c.n, c.e)
		}
	}
}

func TestSumLeavesItsArgument(t *testing.T) {
	l := []int{3, -top, 1, top, 2}
	kept := slices.Clone(l)
	num.Sum(l)
	if !slices.Equal(l, kept) {
		t.Error("Sum changed its argument to", l)
	}
}

// P1.3

func TestMulDivExamples(t *testing.T) {
	third := 2 * (top / 3)
	for _, c := range []struct {
		a, b, c           int
		down, up, nearest int
	}{
		{7, 1, -2, -4, -3, -4}, {-7, 1, 2, -4, -3, -4}, {-7, -1, -2, -4, -3, -4}, {7, -1, 2, -4, -3, -4},
		{7, 1, 2, 3, 4, 4}, {-7, 1, -2, 3, 4, 4}, {7, -1, -2, 3, 4, 4},
		{5, 1, 2, 2, 3, 2}, {5, 1, -2, -3, -2, -2}, {1, 1, 2, 0, 1, 0}, {-1, 1, 2, -1, 0, 0}, {3, 1, 2, 1, 2, 2}, {-3, 1, 2, -2, -1, -2},
		{1, 1, 3, 0, 1, 0}, {2, 1, 3, 0, 1, 1}, {-1, 1, 3, -1, 0, 0}, {-2, 1, 3, -1, 0, -1}, {4, 1, 3, 1, 2, 1}, {5, 1, 3, 1, 2, 2},
		{6, 2, 3, 4, 4, 4}, {6, -2, 3, -4, -4, -4}, {0, 5, 7, 0, 0, 0}, {0, 0, -7, 0, 0, 0}, {5, 0, -7, 0, 0, 0},
		{top, top, top, top, top, top}, {top, top, -top, -top, -top, -top}, {-top, -top, top, top, top, top},
		{1, 1, top, 0, 1, 0}, {-1, 1, top, -1, 0, 0}, {1 << 49, 1, top, 0, 1, 0}, {1<<49 + 1, 1, top, 0, 1, 1}, {1<<49 - 1, -1, top, -1, 0, 0},
		{top - 1, top - 1, top, top - 2, top - 1, top - 2}, {top, 1, 3, top / 3, top/3 + 1, top / 3}, {third, 3, 2, top - 1, top - 1, top - 1},
	} {
		want := []int{c.down, c.up, c.nearest}
		for _, mode := range modes {
			if n, e := num.MulDiv(c.a, c.b, c.c, mode); n != want[mode] || e != api.OK {
				t.Errorf("MulDiv(%d, %d, %d, %d) = %d, %d, not %d", c.a, c.b, c.c, mode, n, e, want[mode])
			}
		}
	}
}

// The quotients are less than 1 away from an end of the range, so that the mode decides.
func TestMulDivRoundsBeforeItRefuses(t *testing.T) {
	third := 2 * (top / 3)
	for _, c := range []struct {
		name    string
		a, b, c int
		n       [3]int
		e       [3]api.Errno
	}{
		{"little more than 2^50", top - 1, top - 1, top - 2, [3]int{top, 0, top}, [3]api.Errno{api.OK, api.ErrOverflow, api.OK}},
		{"little less than -2^50", top - 1, 1 - top, top - 2, [3]int{0, -top, -top}, [3]api.Errno{api.ErrOverflow, api.OK, api.OK}},
		{"2^50 + 1/2", top - 1, third + 1, third, [3]int{top, 0, top}, [3]api.Errno{api.OK, api.ErrOverflow, api.OK}},
		{"-2^50 - 1/2", top - 1, third + 1, -third, [3]int{0, -top, -top}, [3]api.Errno{api.ErrOverflow, api.OK, api.OK}},
		{"more than 2^50 + 1/2", top - 1, 1<<49 + 3, 1<<49 + 2, [3]int{top, 0, 0}, [3]api.Errno{api.OK, api.ErrOverflow, api.ErrOverflow}},
		{"less than -2^50 - 1/2", 1 - top, 1<<49 + 3, 1<<49 + 2, [3]int{0, -top, 0}, [3]api.Errno{api.ErrOverflow, api.OK, api.ErrOverflow}},
		{"little less than 2^50", top - 2, 1<<49 + 1, 1 << 49, [3]int{top - 1, top, top}, [3]api.Errno{}},
		{"little more than -2^50", top - 2, 1<<49 + 1, -1 << 49, [3]int{-top, 1 - top, -top}, [3]api.Errno{}},
	} {
		for _, mode := range modes {
			if n, e := num.MulDiv(c.a, c.b, c.c, mode); n != c.n[mode] || e != c.e[mode] {
				t.Errorf("%s, mode %d: MulDiv = %d, %d, not %d, %d", c.name, mode, n, e, c.n[mode], c.e[mode])
			}
		}
	}
}

func TestMulDivErrorsInOrder(t *testing.T) {
	for _, c := range []struct {
		name          string
		a, b, c, mode int
		e             api.Errno
	}{
		{"a before c and mode", top + 1, 1, 0, 3, api.ErrRange},
		{"b before c and mode", 1, -top - 1, 0, -1, api.ErrRange},
		{"c before mode", 1, 1, top + 1, 3, api.ErrRange},
		{"c before overflow", top, top, math.MinInt, 0, api.ErrRange},
		{"a with a result in range", top + 1, 1, 2, 0, api.ErrRange},
		{"a with the result 0", math.MinInt, 0, 1, 2, api.ErrRange},
		{"division by 0", 1, 1, 0, 0, api.ErrDivide},
		{"0 by 0", 0, 0, 0, 2, api.ErrDivide},
		{"division before mode", 1, 1, 0, 3, api.ErrDivide},
		{"division before overflow", top, top, 0, 1, api.ErrDivide},
		{"mode 3", 1, 1, 1, 3, api.ErrKind},
		{"mode -1", 1, 1, 1, -1, api.ErrKind},
		{"mode 256", 6, 1, 3, 256, api.ErrKind},
		{"mode 2^32", 6, 1, 3, 1 << 32, api.ErrKind},
		{"the greatest mode", 1, 1, 1, math.MaxInt, api.ErrKind},
		{"the smallest mode", 1, 1, 1, math.MinInt, api.ErrKind},
		{"mode before overflow", top, top, 1, 3, api.ErrKind},
		{"3/2 of 2^50", top, 3, 2, 0, api.ErrOverflow},
		{"2^50 + 1", top - 1, 1<<25 + 1, 1<<25 - 1, 0, api.ErrOverflow},
		{"2^64", 1 << 32, 1 << 32, 1, 0, api.ErrOverflow},
		{"-2^64", 1 << 32, -1 << 32, 1, 1, api.ErrOverflow},
		{"2^64 + 2^32", 1 << 32, 1<<32 + 1, 1, 2, api.ErrOverflow},
		{"2^63", 1 << 50, 1 << 14, 2, 2, api.ErrOverflow},
		{"2^100", top, top, 1, 2, api.ErrOverflow},
		{"2^64 - 1/4, up", 1<<33 - 1, 1<<33 + 1, 4, 1, api.ErrOverflow},
		{"2^64 - 1/4, to the nearest", 1<<33 - 1, 1<<33 + 1, 4, 2, api.ErrOverflow},
		{"-2^64 + 1/4, down", 1<<33 - 1, 1<<33 + 1, -4, 0, api.ErrOverflow},
	} {
		if n, e := num.MulDiv(c.a, c.b, c.c, c.mode); n != 0 || e != c.e {
			t.Errorf("%s: MulDiv = %d, %d, not 0, %d", c.name, n, e, c.e)
		}
	}
}

// rounded is p / q, rounded by the definition of the mode.
func rounded(p *big.Int, q *big.Int, mode int) *big.Int {
	if q.Sign() < 0 {
		p, q = new(big.Int).Neg(p), new(big.Int).Neg(q)
	}
	down, rest := new(big.Int).DivMod(p, q, new(big.Int))
	up := down
	if rest.Sign() != 0 {
		up = new(big.Int).Add(down, wide(1))
	}
	half := new(big.Int).Lsh(rest, 1).Cmp(q)
	if mode == 0 || mode == 2 && (half < 0 || half == 0 && down.Bit(0) == 0) {
		return down
	}
	return up
}

func TestMulDivIsExactOrRefused(t *testing.T) {
	for _, a := range inside() {
		for _, b := range inside() {
			for _, c := range inside() {
				if c == 0 {
					continue
				}
				p := new(big.Int).Mul(wide(a), wide(b))
				for _, mode := range modes {
					want, wantError := limited(rounded(p, wide(c), mode))
					if n, e := num.MulDiv(a, b, c, mode); n != want || e != wantError {
						t.Fatalf("MulDiv(%d, %d, %d, %d) = %d, %d, not %d, %d", a, b, c, mode, n, e, want, wantError)
					}
				}
			}
		}
	}
}

func TestMulDivRefusesWhatIsNotInRange(t *testing.T) {
	for _, n := range outside() {
		for _, mode := range []int{0, 1, 2, 3} {
			for _, l := range [][3]int{{n, 1, 1}, {1, n, 1}, {1, 1, n}, {n, n, n}, {0, 0, n}, {n, 0, 0}} {
				if r, e := num.MulDiv(l[0], l[1], l[2], mode); r != 0 || e != api.ErrRange {
					t.Errorf("MulDiv(%d, %d, %d, %d) = %d, %d", l[0], l[1], l[2], mode, r, e)
				}
			}
		}
	}
}

// P1.4

func TestGcdExamples(t *testing.T) {
	for _, c := range []struct {
		a, b, g int
		e       api.Errno
	}{
		{12, 18, 6, api.OK}, {-12, 18, 6, api.OK}, {12, -18, 6, api.OK}, {-12, -18, 6, api.OK}, {18, 12, 6, api.OK},
		{0, 0, 0, api.OK}, {0, -5, 5, api.OK}, {-5, 0, 5, api.OK}, {0, 5, 5, api.OK}, {1, 0, 1, api.OK}, {7, 7, 7, api.OK}, {35, 64, 1, api.OK},
		{top, top, top, api.OK}, {-top, top, top, api.OK}, {-top, -top, top, api.OK}, {0, -top, top, api.OK}, {top, 1 << 20, 1 << 20, api.OK},
		{top, top - 1, 1, api.OK}, {top - 1, 3, 3, api.OK}, {2 * (top / 3), top - 1, top / 3, api.OK},
		// Neighbours in the sequence of Fibonacci take the most steps.
		{806515533049393, 498454011879264, 1, api.OK},
		{top + 1, 1, 0, api.ErrRange}, {1, top + 1, 0, api.ErrRange}, {-top - 1, 0, 0, api.ErrRange}, {0, math.MinInt, 0, api.ErrRange}, {math.MinInt, math.MinInt, 0, api.ErrRange}, {math.MaxInt, 7, 0, api.ErrRange},
	} {
		if g, e := num.Gcd(c.a, c.b); g != c.g || e != c.e {
			t.Errorf("Gcd(%d, %d) = %d, %d, not %d, %d", c.a, c.b, g, e, c.g, c.e)
		}
	}
}

func TestGcdOfAllRanges(t *testing.T) {
	for _, a := range everywhere() {
		for _, b := range everywhere() {
			want, wantError := 0, api.ErrRange
			if fits(a) && fits(b) {
				g := new(big.Int).GCD(nil, nil, wide(a), wide(b))
				want, wantError = int(g.Int64()), api.OK
			}
			if g, e := num.Gcd(a, b); g != want || e != wantError {
				t.Errorf("Gcd(%d, %d) = %d, %d, not %d, %d", a, b, g, e, want, wantError)
			}
		}
	}
}

// P1.5

func TestSqrtExamples(t *testing.T) {
	for _, c := range []struct {
		n, s int
		e    api.Errno
	}{
		{0, 0, api.OK}, {1, 1, api.OK}, {2, 1, api.OK}, {3, 1, api.OK}, {4, 2, api.OK}, {15, 3, api.OK}, {16, 4, api.OK}, {17, 4, api.OK},
		{top, 1 << 25, api.OK}, {top - 1, 1<<25 - 1, api.OK}, {1<<50 - 1<<26 + 1, 1<<25 - 1, api.OK}, {1<<50 - 1<<26, 1<<25 - 2, api.OK},
		{-1, 0, api.ErrRange}, {-4, 0, api.ErrRange}, {-top, 0, api.ErrRange}, {top + 1, 0, api.ErrRange}, {-top - 1, 0, api.ErrRange}, {math.MaxInt, 0, api.ErrRange}, {math.MinInt, 0, api.ErrRange},
	} {
		if s, e := num.Sqrt(c.n); s != c.s || e != c.e {
			t.Errorf("Sqrt(%d) = %d, %d, not %d, %d", c.n, s, e, c.s, c.e)
		}
	}
}

func TestSqrtAroundSquares(t *testing.T) {
	for root := 1; root <= 1<<25; root++ {
		for _, c := range [][2]int{{root*root - 1, root - 1}, {root * root, root}, {min(root*root+2*root, top), root}} {
			if s, e := num.Sqrt(c[0]); s != c[1] || e != api.OK {
				t.Fatalf("Sqrt(%d) = %d, %d, not %d", c[0], s, e, c[1])
			}
		}
		// All of them would take seconds.
		if root > 3000 && root < 1<<25-3000 {
			root += 997
		}
	}
}

// P1.6

func TestSumOfTwoIsAdd(t *testing.T) {
	for _, a := range everywhere() {
		for _, b := range everywhere() {
			s, e := num.Sum([]int{a, b})
			n, f := num.Add(a, b)
			if s != n || e != f {
				t.Errorf("Sum of %d and %d is %d, %d; Add returns %d, %d", a, b, s, e, n, f)
			}
		}
	}
}

// orders calls see for every order of the elements from l[first] on.
func orders(l []int, first int, see func(l []int)) {
	if first == len(l) {
		see(l)
		return
	}
	for i := first; i < len(l); i++ {
		l[first], l[i] = l[i], l[first]
		orders(l, first+1, see)
		l[first], l[i] = l[i], l[first]
	}
}

func TestSumInAnyOrder(t *testing.T) {
	for _, c := range []struct {
		l []int
		n int
		e api.Errno
	}{
		{[]int{1, 2, 3, 4, -50}, -40, api.OK},
		{[]int{top, top, top, -top, -top}, top, api.OK},
		{[]int{top, top, top, -1, -top, -top}, top - 1, api.OK},
		{[]int{-top, -top, 5, top}, 5 - top, api.OK},
		{[]int{top, top, 1, -top}, 0, api.ErrOverflow},
		{[]int{-top, -top, -1, top}, 0, api.ErrOverflow},
		{[]int{top, top, top + 1, -top}, 0, api.ErrRange},
		{[]int{top, 1, math.MinInt, math.MaxInt}, 0, api.ErrRange},
	} {
		orders(slices.Clone(c.l), 0, func(l []int) {
			if n, e := num.Sum(l); n != c.n || e != c.e {
				t.Errorf("Sum of %d = %d, %d, not %d, %d", l, n, e, c.n, c.e)
			}
		})
	}
}

func TestSumOfManyInAnyOrder(t *testing.T) {
	l := make([]int, 65536)
	want := 0
	for i := range l {
		l[i] = (i*i*7919)%2000003 - 1000001
		want += l[i]
	}
	up := slices.Sorted(slices.Values(l))
	down := slices.Clone(up)
	slices.Reverse(down)
	for _, l := range [][]int{l, up, down} {
		if n, e := num.Sum(l); n != want || e != api.OK {
			t.Errorf("Sum = %d, %d, not %d", n, e, want)
		}
	}
}

// P1.7

func TestModesOfMulDiv(t *testing.T) {
	for _, a := range inside() {
		for _, b := range inside() {
			for _, c := range inside() {
				down, e := num.MulDiv(a, b, c, 0)
				up, f := num.MulDiv(a, b, c, 1)
				nearest, g := num.MulDiv(a, b, c, 2)
				if e != api.OK || f != api.OK || g != api.OK {
					continue
				}
				if up-down > 1 || nearest < down || nearest > up {
					t.Fatalf("MulDiv of %d, %d and %d: %d, %d, %d", a, b, c, down, up, nearest)
				}
				rest := new(big.Int).Mul(wide(a), wide(b))
				divides := rest.Rem(rest, wide(c)).Sign() == 0
				if divides != (down == up) {
					t.Fatalf("MulDiv of %d, %d and %d: %d, %d", a, b, c, down, up)
				}
			}
		}
	}
}

func TestMulDivByAFactor(t *testing.T) {
	for _, a := range inside() {
		for _, c := range inside() {
			want, wantError := a, api.OK
			if c == 0 {
				want, wantError = 0, api.ErrDivide
			}
			for _, mode := range modes {
				if n, e := num.MulDiv(a, c, c, mode); n != want || e != wantError {
					t.Errorf("MulDiv(%d, %d, %d, %d) = %d, %d", a, c, c, mode, n, e)
				}
			}
		}
	}
}

// P1.8

// divides also knows that 0 divides 0 alone, and that everything divides 0.
func divides(d int, n int) bool { return d == 0 && n == 0 || d != 0 && n%d == 0 }

func TestGcdDividesAndIsDivided(t *testing.T) {
	const most = 72
	for a := -most; a <= most; a++ {
		for b := -most; b <= most; b++ {
			g, e := num.Gcd(a, b)
			if e != api.OK || g < 0 || !divides(g, a) || !divides(g, b) {
				t.Fatalf("Gcd(%d, %d) = %d, %d", a, b, g, e)
			}
			for d := range most + 1 {
				if divides(d, a) && divides(d, b) && !divides(d, g) {
					t.Fatalf("Gcd(%d, %d) = %d, which %d does not divide", a, b, g, d)
				}
			}
		}
	}
}

func TestGcdOfMultiples(t *testing.T) {
	// 35 and 64 have no common divisor, so that exactly the divisors of f divide both multiples.
	for f := 1; f <= top/64; f = f*3 + 1 {
		for _, c := range [][2]int{{35 * f, 64 * f}, {-64 * f, 35 * f}, {f, 64 * f}, {-f, -f}, {0, f}, {f, 0}} {
			if g, e := num.Gcd(c[0], c[1]); g != f || e != api.OK {
				t.Errorf("Gcd(%d, %d) = %d, %d, not %d", c[0], c[1], g, e, f)
			}
		}
	}
}
