package share_test

import (
	"math"
	"math/big"
	"slices"
	"testing"

	"papermill/api"
	"papermill/share"
)

const (
	top  = api.MaxNum
	most = api.MaxRecords
)

// third is a divisor of top - 1: top divided by it leaves 1, so that the remainders of neighbouring weights differ by 1.
const third = (top - 1) / 3

// division is what Split and Bounds accept.
type division struct {
	total   int
	weights []int
}

// filled has count elements n.
func filled(count int, n int) []int { return slices.Repeat([]int{n}, count) }

// changed is l with n at the index i.
func changed(l []int, i int, n int) []int {
	l = slices.Clone(l)
	l[i] = n
	return l
}

// sum expects elements whose sums are in range.
func sum(l []int) int {
	s := 0
	for _, n := range l {
		s += n
	}
	return s
}

// random returns numbers below n in an order without a rule, the same ones in every run.
func random() func(n int) int {
	x := uint64(1)
	return func(n int) int {
		x = x*6364136223846793005 + 1442695040888963407
		return int(x >> 13 % uint64(n))
	}
}

// tuples are all lists of from 1 to longest integers from 0 to below.
func tuples(longest int, below int) [][]int {
	var l [][]int
	grown := [][]int{nil}
	for range longest {
		var longer [][]int
		for _, a := range grown {
			for n := range below {
				longer = append(longer, append(slices.Clone(a), n))
			}
		}
		grown = longer
		l = append(l, grown...)
	}
	return l
}

// divisions are each list with each total, if it can be divided.
func divisions(totals []int, lists ...[]int) []division {
	var l []division
	for _, weights := range lists {
		for _, total := range totals {
			if total == 0 || sum(weights) > 0 {
				l = append(l, division{total, weights})
			}
		}
	}
	return l
}

// small divisions have up to four weights, zeros and equal ones among them, and fewer units than parts, as many, or some more.
func small() []division {
	return divisions([]int{0, 1, 2, 3, 4, 5, 6, 7, 8, 9, 10, 11}, tuples(4, 5)...)
}

// great divisions have products that need up to 100 bits, and sums up to MaxNum.
func great() []division {
	return divisions([]int{0, 1, 2, 3, 5, 97, 1 << 25, top / 3, top/2 - 1, top / 2, top/2 + 1, top - 2, top - 1, top},
		[]int{1}, []int{2}, []int{top - 1}, []int{top}, []int{0, top}, []int{top, 0}, []int{0, 0, top, 0}, []int{1, 1}, []int{1, 2}, []int{3, 2, 1}, []int{1, 1, 1}, []int{7, 11, 13}, []int{1, 0, 6, 0, 3},
		[]int{1, top - 1}, []int{top - 1, 1}, []int{3, top - 3}, []int{1, 1, top - 2}, []int{1, top - 2, 1}, []int{0, 1, top - 1, 0}, []int{1, 2, 3, 4, top - 10},
		[]int{top / 2, top / 2}, []int{top/2 - 1, top / 2}, []int{top / 2, top/2 - 1}, []int{top/2 - 1, top/2 + 1}, []int{top/2 - 1, top/2 - 1}, filled(4, top/4), filled(7, top/7), []int{top / 2, top / 4, top / 8, top / 8},
		filled(3, third), append(filled(3, third), 1), []int{third / 2, third/2 + 1}, []int{third/2 + 1, third / 2}, []int{third / 3, third/3 + 1, third - 2*(third/3) - 1},
		[]int{1<<25 - 1, 1 << 25, 1<<25 + 1}, []int{1 << 32, 1<<32 + 1, 1<<32 - 1}, []int{1<<32 + 1, 0, 1<<32 + 1}, []int{1<<49 - 1, 1 << 40, 1 << 30},
	)
}

// long divisions have up to MaxRecords weights.
func long() []division {
	var l []division
	next := random()
	for _, n := range []int{5, 17, 100, most - 1, most} {
		up, digits, hundreds, wild := make([]int, n), make([]int, n), make([]int, n), make([]int, n)
		for i := range n {
			up[i], digits[i], hundreds[i], wild[i] = i, next(3), 100*next(10), next(top/n)
		}
		digits[n/2]++
		down := slices.Clone(up)
		slices.Reverse(down)
		whole := changed(wild, n/3, wild[n/3]+top-sum(wild))
		none := make([]int, n)
		l = append(l, divisions([]int{0, 1, n - 1, n, n + 1, 1000, top/2 + 7, top - 1, top},
			filled(n, 1), filled(n, top/n), up, down, digits, hundreds, wild, whole, none, changed(none, 0, 1), changed(none, n/2, top), changed(none, n-1, 5))...)
	}
	return l
}

func all() []division { return slices.Concat(small(), great(), long()) }

// product divides a * b by c: the quotient, rounded down, and the remainder.
func product(a int, b int, c int) (int, int) {
	p := new(big.Int).Mul(big.NewInt(int64(a)), big.NewInt(int64(b)))
	q, r := p.DivMod(p, big.NewInt(int64(c)), new(big.Int))
	return int(q.Int64()), int(r.Int64())
}

// divided is what Split must return, unit by unit.
func divided(d division) []int {
	parts, remainders := make([]int, len(d.weights)), make([]int, len(d.weights))
	whole := sum(d.weights)
	if whole == 0 {
		return parts
	}
	for i, w := range d.weights {
		parts[i], remainders[i] = product(d.total, w, whole)
	}
	for range d.total - sum(parts) {
		i := slices.Index(remainders, slices.Max(remainders))
		parts[i]++
		remainders[i] = -1
	}
	return parts
}

// ends are what Bounds must return.
func ends(d division) []int {
	l := make([]int, len(d.weights))
	if whole := sum(d.weights); whole > 0 {
		for i := range l {
			l[i], _ = product(d.total, sum(d.weights[:i+1]), whole)
		}
	}
	return l
}

// splitter is a function with the arguments of Split.
type splitter struct {
	name string
	f    func(total int, weights []int) ([]int, api.Errno)
}

func splitters() []splitter { return []splitter{{"Split", share.Split}, {"Bounds", share.Bounds}} }

// short writes no more of a long list than its beginning.
func short(l []int) []int { return l[:min(len(l), 12)] }

// expect fails unless a function returns these parts.
func expect(t *testing.T, s splitter, d division, want []int) {
	t.Helper()
	if l, e := s.f(d.total, d.weights); !slices.Equal(l, want) || e != api.OK {
		t.Fatalf("%s(%d, %v) = %v, %d, not %v", s.name, d.total, short(d.weights), short(l), e, short(want))
	}
}

// parts returns what a function returns for a division, and fails if it returns an error or too few parts.
func parts(t *testing.T, s splitter, d division) []int {
	t.Helper()
	l, e := s.f(d.total, d.weights)
	if len(l) != len(d.weights) || e != api.OK {
		t.Fatalf("%s(%d, %v) = %v, %d", s.name, d.total, short(d.weights), short(l), e)
	}
	return l
}

// P12.1

func TestSplitExamples(t *testing.T) {
	for _, c := range []struct {
		name    string
		total   int
		weights []int
		parts   []int
	}{
		{"example 1", 4, []int{10, 5}, []int{3, 1}},
		{"example 2", 10, []int{1, 1, 1}, []int{4, 3, 3}},
		{"example 3", 0, []int{0, 0}, []int{0, 0}},
		{"one weight", 7, []int{3}, []int{7}}, {"one weight and MaxNum", top, []int{1}, []int{top}}, {"the greatest weight", 1, []int{top}, []int{1}}, {"the greatest weight and MaxNum", top, []int{top}, []int{top}}, {"one weight, nothing", 0, []int{3}, []int{0}}, {"one weight of 0, nothing", 0, []int{0}, []int{0}},
		{"nothing", 0, []int{5, 0, 2}, []int{0, 0, 0}}, {"nothing, great weights", 0, []int{top - 1, 1}, []int{0, 0}}, {"nothing among many zeros", 0, make([]int, most), make([]int, most)},
		{"exact shares", 6, []int{1, 2, 3}, []int{1, 2, 3}}, {"exact shares, twice", 12, []int{1, 2, 3}, []int{2, 4, 6}}, {"an exact share is not raised, the first", 3, []int{2, 1, 3}, []int{1, 1, 1}}, {"the second", 3, []int{1, 2, 3}, []int{1, 1, 1}}, {"the last", 3, []int{1, 3, 2}, []int{1, 1, 1}}, {"an exact share and two units for others", 4, []int{3, 1, 1, 1}, []int{2, 1, 1, 0}}, {"two exact shares, one unit", 5, []int{4, 3, 2, 1}, []int{2, 2, 1, 0}},
		{"weights of 0", 7, []int{0, 3, 0}, []int{0, 7, 0}}, {"no unit for a weight of 0", 5, []int{0, 1, 0, 1, 0}, []int{0, 3, 0, 2, 0}}, {"no unit for the first weight of 0", 1, []int{0, 0, 9, 9}, []int{0, 0, 1, 0}},
		{"equal weights", 11, []int{4, 4, 4}, []int{4, 4, 3}}, {"equal weights, one unit", 1, []int{5, 5, 5}, []int{1, 0, 0}}, {"equal weights, exact", 9, []int{8, 8, 8}, []int{3, 3, 3}},
		{"equal remainders, the lower index", 1, []int{1, 1}, []int{1, 0}}, {"equal remainders, the smaller weight first", 2, []int{1, 3}, []int{1, 1}}, {"equal remainders, the greater weight first", 2, []int{3, 1}, []int{2, 0}}, {"equal remainders behind a smaller one", 1, []int{1, 2, 2}, []int{0, 1, 0}}, {"equal remainders before exact shares", 3, []int{1, 1, 2, 2}, []int{1, 0, 1, 1}},
		{"the greatest remainder is the last one", 1, []int{1, 2, 3}, []int{0, 0, 1}}, {"the smaller weight has the larger remainder", 3, []int{3, 1}, []int{2, 1}}, {"two units, remainders in no order", 2, []int{3, 7, 4, 6}, []int{0, 1, 0, 1}}, {"remainders that fall", 1, []int{3, 2, 1}, []int{1, 0, 0}}, {"two units, remainders that rise", 2, []int{3, 4, 5}, []int{0, 1, 1}}, {"equal remainders of small weights behind a great one", 13, []int{20, 3, 3}, []int{10, 2, 1}},
		{"remainders that differ by 1", 1, []int{2, 3}, []int{0, 1}}, {"remainders of 2^49 - 1 and 2^49", 1, []int{1<<49 - 1, 1 << 49}, []int{0, 1}}, {"remainders of 2^49 and 2^49 - 1", 1, []int{1 << 49, 1<<49 - 1}, []int{1, 0}}, {"MaxNum and remainders that differ by 1", top, []int{third / 2, third/2 + 1}, []int{562949953421310, 562949953421314}}, {"the same the other way round", top, []int{third/2 + 1, third / 2}, []int{562949953421314, 562949953421310}},
		{"more parts than units", 2, []int{1, 1, 1, 1, 1}, []int{1, 1, 0, 0, 0}}, {"more parts than units, the heaviest", 2, []int{1, 5, 2, 4, 3}, []int{0, 1, 0, 1, 0}}, {"one unit for the heaviest of 512", 1, changed(filled(most, 1), 300, 2), changed(make([]int, most), 300, 1)},
		{"512 equal weights, one unit less", most - 1, filled(most, 3), changed(filled(most, 1), most-1, 0)}, {"512 equal weights, exact", most, filled(most, 1), filled(most, 1)}, {"512 equal weights, one unit more", most + 1, filled(most, 1<<41), changed(filled(most, 1), 0, 2)}, {"512 equal weights and MaxNum", top, filled(most, 1), filled(most, 1<<41)},
		{"a sum of MaxNum", top, []int{top - 1, 1}, []int{top - 1, 1}}, {"a sum of MaxNum, one unit less", top - 1, []int{top - 1, 1}, []int{top - 2, 1}}, {"a sum of MaxNum, halves", top - 1, []int{top / 2, top / 2}, []int{top / 2, top/2 - 1}},
		{"MaxNum and small weights", top, []int{1, 2}, []int{375299968947541, 750599937895083}}, {"MaxNum among three", top, []int{1, 1, 1}, []int{375299968947542, 375299968947541, 375299968947541}},
	} {
		if l, e := share.Split(c.total, c.weights); !slices.Equal(l, c.parts) || e != api.OK {
			t.Errorf("%s: Split = %v, %d, not %v", c.name, short(l), e, short(c.parts))
		}
	}
}

func TestSplit(t *testing.T) {
	for _, d := range all() {
		expect(t, splitters()[0], d, divided(d))
	}
}

// refusal are weights with the errors that Split and Bounds return for them and a total of 0, and of more.
type refusal struct {
	name       string
	weights    []int
	zero, more api.Errno
}

// outside are integers below 0 or above MaxNum.
func outside() []int {
	return []int{
		-1, -2, -512, -top, -top - 1, -1 << 62, math.MinInt, math.MinInt + 1,
		top + 1, top + 2, 1 << 51, 1 << 62, 1<<62 + 1, math.MaxInt - 1, math.MaxInt,
	}
}

// badWeights are lists with a weight that is out of range: at the beginning, in the middle and at the end of weights that have no other error, whose sum is too great, or whose sum is 0.
func badWeights() []refusal {
	var l []refusal
	for _, n := range outside() {
		for _, others := range [][]int{{4, 9, 2}, filled(most, 1), {top, 1, top}, filled(most, top), {0, 0, 0}, make([]int, most)} {
			for _, i := range []int{0, len(others) / 2, len(others) - 1} {
				l = append(l, refusal{"a bad weight", changed(others, i, n), api.ErrRange, api.ErrRange})
			}
		}
		l = append(l, refusal{"only a bad weight", []int{n}, api.ErrRange, api.ErrRange}, refusal{"bad weights", filled(most, n), api.ErrRange, api.ErrRange})
	}
	for _, weights := range [][]int{{-1, 1}, {2, -1}, {top + 1, -1}, {-top, top, 7}, {math.MinInt, math.MaxInt, 1}, {math.MinInt, math.MinInt}, filled(4, 1<<62), {top, 1, -1}, {top, top, -top}} {
		l = append(l, refusal{"bad weights whose sum is in range or seems to be", weights, api.ErrRange, api.ErrRange})
	}
	return l
}

func refusals() []refusal {
	l := []refusal{{"no weights, nil", nil, api.ErrEmpty, api.ErrEmpty}, {"no weights", []int{}, api.ErrEmpty, api.ErrEmpty}}
	for _, n := range []int{most + 1, most + 2, 2 * most, 1000, 65536, 65537, 100000} {
		for _, w := range []int{1, 0, -1, top, top + 1, math.MinInt, math.MaxInt} {
			l = append(l, refusal{"too many weights", filled(n, w), api.ErrFull, api.ErrFull})
		}
	}
	l = append(l, refusal{"513 weights, the last one bad", changed(filled(most+1, 1), most, -1), api.ErrFull, api.ErrFull})
	l = append(l, badWeights()...)
	for _, weights := range [][]int{{top, 1}, {1, top}, {0, top, 0, 1}, {top, top}, {top / 2, top/2 + 1}, {top - 1, 1, 1}, filled(3, third+1), filled(most, top), filled(most, top/most+1), changed(filled(most, top/most), most-1, top/most+1), changed(changed(make([]int, most), 0, 1), most-1, top)} {
		l = append(l, refusal{"too great a sum", weights, api.ErrOverflow, api.ErrOverflow})
	}
	for _, n := range []int{1, 2, 3, most - 1, most} {
		l = append(l, refusal{"a sum of 0", make([]int, n), api.OK, api.ErrDivide})
	}
	return l
}

// expectRefused reports an error unless a function returns the error and nothing else.
func expectRefused(t *testing.T, name string, s splitter, d division, want api.Errno) {
	t.Helper()
	if l, e := s.f(d.total, d.weights); len(l) != 0 || e != want {
		t.Errorf("%s: %s(%d, %v of %d) = %v, %d, not %d", name, s.name, d.total, short(d.weights), len(d.weights), short(l), e, want)
	}
}

func TestErrorsInOrder(t *testing.T) {
	for _, s := range splitters() {
		for _, r := range refusals() {
			for _, total := range []int{1, 2, 511, 1 << 32, top - 1, top} {
				expectRefused(t, r.name, s, division{total, r.weights}, r.more)
			}
			if r.zero != api.OK {
				expectRefused(t, r.name, s, division{0, r.weights}, r.zero)
			}
		}
	}
}

func TestTotalIsCheckedFirst(t *testing.T) {
	for _, s := range splitters() {
		for _, total := range outside() {
			for _, r := range refusals() {
				expectRefused(t, r.name, s, division{total, r.weights}, api.ErrRange)
			}
			for _, weights := range [][]int{{1}, {10, 5}, {0, 3}, {top}, {top - 1, 1}, filled(most, 1)} {
				expectRefused(t, "only a bad total", s, division{total, weights}, api.ErrRange)
			}
		}
	}
}

// The limits themselves are accepted.
func TestLimitsAreAccepted(t *testing.T) {
	for _, s := range splitters() {
		for _, d := range []division{{0, []int{0}}, {0, []int{top}}, {top, []int{top}}, {top, filled(most, top/most)}, {top, changed(make([]int, most), 77, top)}, {0, make([]int, most)}} {
			if l := parts(t, s, d); slices.Max(l) > d.total || slices.Min(l) < 0 {
				t.Errorf("%s(%d, %v) = %v", s.name, d.total, short(d.weights), short(l))
			}
		}
	}
}

// P12.2

func expectEven(t *testing.T, total int, n int, want []int) {
	t.Helper()
	if l, e := share.Even(total, n); !slices.Equal(l, want) || e != api.OK {
		t.Fatalf("Even(%d, %d) = %v, %d, not %v", total, n, short(l), e, short(want))
	}
}

func TestEvenExamples(t *testing.T) {
	for _, c := range []struct {
		total, n int
		parts    []int
	}{
		{10, 3, []int{4, 3, 3}}, {11, 3, []int{4, 4, 3}}, {12, 3, []int{4, 4, 4}}, {2, 4, []int{1, 1, 0, 0}}, {3, 4, []int{1, 1, 1, 0}},
		{0, 1, []int{0}}, {0, 2, []int{0, 0}}, {0, most, make([]int, most)}, {7, 1, []int{7}}, {1, 1, []int{1}}, {top, 1, []int{top}}, {top - 1, 1, []int{top - 1}},
		{1, most, changed(make([]int, most), 0, 1)}, {most - 1, most, changed(filled(most, 1), most-1, 0)}, {most, most, filled(most, 1)}, {most + 1, most, changed(filled(most, 1), 0, 2)}, {top, most, filled(most, 1<<41)}, {top - 1, most, changed(filled(most, 1<<41), most-1, 1<<41-1)},
		{top, 2, []int{1 << 49, 1 << 49}}, {top - 1, 2, []int{1 << 49, 1<<49 - 1}}, {top, 3, []int{third + 1, third, third}}, {top - 1, 3, []int{third, third, third}},
	} {
		expectEven(t, c.total, c.n, c.parts)
	}
}

// Equal parts differ only in that the first ones have one unit of the rest each.
func TestEven(t *testing.T) {
	for n := 1; n <= most; n++ {
		for _, total := range []int{0, 1, n - 1, n, n + 1, 2*n - 1, 1000, 99991, top/2 + 3, top - 1, top} {
			want := filled(n, total/n)
			for i := range total % n {
				want[i]++
			}
			expectEven(t, total, n, want)
			if n <= 4 || n%50 == 0 || n >= most-1 {
				expectEven(t, total, n, parts(t, splitters()[0], division{total, filled(n, 1)}))
			}
		}
	}
}

func TestEvenRefuses(t *testing.T) {
	refused := func(total int, n int) {
		if l, e := share.Even(total, n); len(l) != 0 || e != api.ErrRange {
			t.Errorf("Even(%d, %d) = %v, %d", total, n, short(l), e)
		}
	}
	numbers := []int{0, -1, -2, -most, math.MinInt, math.MinInt + 1, most + 1, most + 2, 65536, 65537, 1 << 32, 1<<32 + 1, top, 1 << 62, math.MaxInt - 1, math.MaxInt}
	for _, n := range numbers {
		for _, total := range slices.Concat([]int{0, 1, 10, top}, outside()) {
			refused(total, n)
		}
	}
	for _, total := range outside() {
		for _, n := range []int{1, 2, 3, 100, most} {
			refused(total, n)
		}
	}
}

// P12.3

func TestBoundsExamples(t *testing.T) {
	for _, c := range []struct {
		name    string
		total   int
		weights []int
		bounds  []int
	}{
		{"example 2", 10, []int{1, 1, 1}, []int{3, 6, 10}}, {"example 1", 4, []int{10, 5}, []int{2, 4}},
		{"one weight", 7, []int{3}, []int{7}}, {"one weight and MaxNum", top, []int{1}, []int{top}}, {"the greatest weight", top, []int{top}, []int{top}}, {"one weight, nothing", 0, []int{3}, []int{0}},
		{"nothing", 0, []int{5, 0, 2}, []int{0, 0, 0}}, {"zeros", 0, []int{0, 0, 0}, []int{0, 0, 0}}, {"a zero", 0, []int{0}, []int{0}}, {"512 zeros", 0, make([]int, most), make([]int, most)},
		{"exact", 6, []int{1, 2, 3}, []int{1, 3, 6}}, {"no rounding to the nearest", 9, []int{99, 1}, []int{8, 9}}, {"rounded down once, not part by part", 5, []int{1, 1, 1, 1}, []int{1, 2, 3, 5}},
		{"weights of 0 between others", 7, []int{0, 2, 0, 3}, []int{0, 2, 2, 7}}, {"weights of 0 at the end", 7, []int{2, 3, 0, 0}, []int{2, 7, 7, 7}}, {"equal bounds of positive weights", 2, []int{1, 1, 1, 1, 1}, []int{0, 0, 1, 1, 2}}, {"one unit comes last", 1, []int{1, 1, 1, 1}, []int{0, 0, 0, 1}}, {"one unit before weights of 0", 1, []int{5, 5, 0, 0}, []int{0, 1, 1, 1}},
		{"512 parts, one unit", 1, filled(most, 1), changed(make([]int, most), most-1, 1)}, {"MaxNum and small weights", top, []int{1, 2}, []int{375299968947541, top}}, {"MaxNum among three", top, []int{1, 1, 1}, []int{375299968947541, 750599937895082, top}},
		{"a sum of MaxNum", top, []int{top - 1, 1}, []int{top - 1, top}}, {"a sum of MaxNum, one unit less", top - 1, []int{top - 1, 1}, []int{top - 2, top - 1}}, {"a sum of MaxNum, great and small", top - 1, []int{1, top - 2, 1}, []int{0, top - 2, top - 1}},
	} {
		if l, e := share.Bounds(c.total, c.weights); !slices.Equal(l, c.bounds) || e != api.OK {
			t.Errorf("%s: Bounds = %v, %d, not %v", c.name, short(l), e, short(c.bounds))
		}
	}
}

func TestBounds(t *testing.T) {
	for _, d := range all() {
		expect(t, splitters()[1], d, ends(d))
	}
}

// P12.4

func expectFair(t *testing.T, l []int, weights []int, want bool) {
	t.Helper()
	if share.Fair(l, weights) != want {
		t.Fatalf("Fair(%v, %v) of %d and %d is not %t", short(l), short(weights), len(l), len(weights), want)
	}
}

func TestFairExamples(t *testing.T) {
	for _, c := range []struct {
		l, weights []int
		fair       bool
	}{
		{[]int{3, 1}, []int{10, 5}, true}, {[]int{2, 2}, []int{10, 5}, false}, {[]int{4, 0}, []int{10, 5}, false},
		{[]int{0, 0}, []int{0, 0}, true}, {[]int{0}, []int{0}, true}, {[]int{0}, []int{top}, true}, {[]int{0, 0}, []int{7, 9}, true}, {[]int{1, 0}, []int{0, 0}, false}, {[]int{1}, []int{0}, false}, {[]int{0, 1, 0}, []int{0, 0, 0}, false},
		{[]int{1}, []int{1}, true}, {[]int{top}, []int{1}, true}, {[]int{top}, []int{top}, true}, {[]int{top, 0}, []int{top, 0}, true}, {[]int{top - 1, 1}, []int{top - 1, 1}, true}, {[]int{0, top}, []int{top - 1, 1}, false},
		{[]int{4, 3, 3}, []int{1, 1, 1}, true}, {[]int{3, 4, 3}, []int{1, 1, 1}, false}, {[]int{3, 3, 4}, []int{1, 1, 1}, false}, {[]int{5, 3, 2}, []int{1, 1, 1}, false},
		// The weights divide the sum in another way than the order of the parts says.
		{[]int{1, 3}, []int{5, 10}, true}, {[]int{3, 1}, []int{5, 10}, false}, {[]int{1, 2}, []int{2, 1}, false},
		{filled(most, 5), filled(most, 1), true}, {filled(most, top/most), filled(most, 1), true}, {changed(filled(most, 5), 0, 6), filled(most, 1), true}, {changed(filled(most, 5), most-1, 6), filled(most, 1), false},
	} {
		expectFair(t, c.l, c.weights, c.fair)
	}
}

// All short lists of parts are fair or not as the results for all totals say that can be.
func TestFairOfShortLists(t *testing.T) {
	var lists [][]int
	for _, l := range tuples(3, 6) {
		for i := range l {
			l[i]--
		}
		lists = append(lists, l)
	}
	for _, weights := range append(tuples(3, 4), []int{5, 3, 7}, []int{2, 9, 4}) {
		var results [][]int
		for _, d := range divisions([]int{0, 1, 2, 3, 4, 5, 6, 7, 8, 9, 10, 11, 12}, weights) {
			results = append(results, divided(d))
		}
		for _, l := range lists {
			expectFair(t, l, weights, slices.ContainsFunc(results, func(r []int) bool { return slices.Equal(l, r) }))
		}
	}
}

// isFair expects weights that Split accepts.
func isFair(l []int, weights []int) bool {
	if slices.Min(l) < 0 || sum(l) > top || sum(l) > 0 && sum(weights) == 0 {
		return false
	}
	return slices.Equal(l, divided(division{sum(l), weights}))
}

func TestFairOfSplit(t *testing.T) {
	for _, d := range slices.Concat(small(), great()) {
		l := divided(d)
		expectFair(t, l, d.weights, true)
		for i := range l {
			more, less := changed(l, i, l[i]+1), changed(l, i, l[i]-1)
			expectFair(t, more, d.weights, isFair(more, d.weights))
			expectFair(t, less, d.weights, isFair(less, d.weights))
			for k := range l {
				if k != i {
					expectFair(t, changed(more, k, l[k]-1), d.weights, false)
				}
			}
		}
		expectFair(t, append(slices.Clone(l), 0), d.weights, false)
		expectFair(t, l[1:], d.weights, false)
	}
}

func TestFairOfSplitOfLongLists(t *testing.T) {
	for _, d := range long() {
		l := divided(d)
		expectFair(t, l, d.weights, true)
		for _, i := range []int{0, len(l) / 2, len(l) - 1} {
			k := (i + 1) % len(l)
			more, less := changed(l, i, l[i]+1), changed(l, i, l[i]-1)
			expectFair(t, more, d.weights, isFair(more, d.weights))
			expectFair(t, less, d.weights, isFair(less, d.weights))
			expectFair(t, changed(more, k, l[k]-1), d.weights, false)
		}
	}
}

// A list divided among its own elements is itself, if it can be divided.
func TestFairOfOneListAsBothArguments(t *testing.T) {
	for _, d := range all() {
		expectFair(t, d.weights, d.weights, true)
	}
	for _, r := range refusals() {
		expectFair(t, r.weights, r.weights, r.zero == api.OK)
	}
}

func TestFairOfListsOfDifferentLengths(t *testing.T) {
	lists := [][]int{nil, {}, {0}, {1}, {0, 0}, {1, 1}, {1, 0}, {0, 0, 0}, {2, 1, 1}, make([]int, most), filled(most, 1), make([]int, most+1), filled(most+1, 1), make([]int, 65537), make([]int, 100000), filled(100000, math.MaxInt)}
	for _, l := range lists {
		for _, weights := range lists {
			if len(l) != len(weights) || len(l) == 0 || len(l) > most {
				expectFair(t, l, weights, false)
			}
		}
	}
}

// Each of these lists of parts has an element out of range, or a sum that is, although it may seem to be in range.
func TestFairOfPartsOutOfRange(t *testing.T) {
	lists := [][]int{
		{-1, 1}, {1, -1}, {-1, 2}, {2, -1}, {-1, -1}, {top + 1, -1}, {-1, top + 1}, {-top, top},
		{top, 1}, {1, top}, {top, top}, {top / 2, top/2 + 1}, {math.MinInt, math.MaxInt}, {math.MinInt, math.MinInt}, {math.MaxInt, math.MaxInt}, {math.MaxInt, 1}, {math.MaxInt, math.MinInt, 1}, {math.MinInt, math.MaxInt, 2}, {math.MaxInt, math.MaxInt, 2},
		filled(2, 1<<62), filled(4, 1<<62), filled(8, 1<<61), filled(most, top), filled(most, 1<<55), filled(most, -1), changed(make([]int, most), 9, -1), changed(filled(most, top/most), 1, top/most+1),
	}
	for _, n := range outside() {
		lists = append(lists, []int{n}, []int{0, n}, []int{n, 0}, []int{n, n}, []int{n, -n}, []int{1, n, 1}, changed(filled(most, 1), most-1, n))
	}
	for _, l := range lists {
		for _, w := range []int{0, 1, 3, top / most} {
			expectFair(t, l, filled(len(l), w), false)
			expectFair(t, l, changed(filled(len(l), w), 0, w+1), false)
		}
	}
}

// Split refuses these weights for the sum of the parts.
func TestFairOfWeightsThatSplitRefuses(t *testing.T) {
	for _, r := range refusals() {
		n := len(r.weights)
		expectFair(t, make([]int, n), r.weights, r.zero == api.OK)
		expectFair(t, filled(n, 1), r.weights, false)
		expectFair(t, filled(n, top/max(n, 1)), r.weights, false)
		if n > 0 {
			expectFair(t, changed(make([]int, n), 0, 5), r.weights, false)
			expectFair(t, changed(make([]int, n), n-1, top), r.weights, false)
		}
	}
}

// P12.5

func TestPartsAddUp(t *testing.T) {
	for _, d := range all() {
		l := parts(t, splitters()[0], d)
		if sum(l) != d.total {
			t.Fatalf("the parts of %d by %v add up to %d", d.total, short(d.weights), sum(l))
		}
		for i, w := range d.weights {
			down, rest := product(d.total, w, max(sum(d.weights), 1))
			if l[i] != down && (rest == 0 || l[i] != down+1) {
				t.Fatalf("part %d of %d by %v is %d, and its exact share %d with a rest of %d", i, d.total, short(d.weights), l[i], down, rest)
			}
		}
	}
}

// P12.6

func TestPartsInTheOrderOfWeights(t *testing.T) {
	for _, d := range all() {
		l := parts(t, splitters()[0], d)
		for i, w := range d.weights {
			for k := range i {
				// The part with the index k is the earlier one.
				ok := l[k]-l[i] == 0 || l[k]-l[i] == 1
				if d.weights[k] > w {
					ok = l[k] >= l[i]
				} else if d.weights[k] < w {
					ok = l[k] <= l[i]
				}
				if !ok {
					t.Fatalf("parts %d and %d of %d by %v are %d and %d, for weights of %d and %d", k, i, d.total, short(d.weights), l[k], l[i], d.weights[k], w)
				}
			}
		}
	}
}

// P12.7

func TestBoundsAreNearTheShares(t *testing.T) {
	for _, d := range all() {
		l := parts(t, splitters()[1], d)
		if l[len(l)-1] != d.total {
			t.Fatalf("the last bound of %d by %v is %d", d.total, short(d.weights), l[len(l)-1])
		}
		before := 0
		for i, w := range d.weights {
			down, rest := product(d.total, w, max(sum(d.weights), 1))
			length := l[i] - before
			before = l[i]
			// The exact share lies between down and down + 1.
			if length < 0 || length != down && (rest == 0 || length != down+1) {
				t.Fatalf("bound %d of %d by %v is %d behind the one before, and the exact share is %d with a rest of %d", i, d.total, short(d.weights), length, down, rest)
			}
		}
	}
}

// P12.8

func TestScale(t *testing.T) {
	for _, d := range all() {
		whole := sum(d.weights)
		greatest := top / max(whole, 1)
		for _, s := range splitters() {
			want := parts(t, s, d)
			for _, factor := range []int{2, 3, 10, 1 << 20, 1<<25 - 1, greatest/2 + 1, greatest} {
				if factor > greatest {
					continue
				}
				scaled := slices.Clone(d.weights)
				for i := range scaled {
					scaled[i] *= factor
				}
				expect(t, s, division{d.total, scaled}, want)
			}
		}
	}
}

// Memory

// behind is what lies in the memory of an argument behind its end.
func behind() []int { return filled(2*most, -5) }

// roomy is a copy of l with room behind it.
func roomy(l []int) []int { return slices.Concat(l, behind())[:len(l)] }

// isKept reports whether l is still what roomy returned for kept.
func isKept(l []int, kept []int) bool {
	return slices.Equal(l[:len(kept)+2*most], slices.Concat(kept, behind()))
}

// spoil also writes to the room behind l, which belongs to a result as well.
func spoil(l []int) {
	l = l[:cap(l)]
	for i := range l {
		l[i] = -7
	}
}

// shapes are weights whose parts may be equal to them, and others, and weights that are refused.
func shapes() [][]int {
	return [][]int{nil, {0}, {7}, {10, 5}, {5, 10, 0, 3}, {1, 2, 3, 4, 5}, {5, 4, 3, 2, 1}, {top - 1, 1}, filled(most, 1), filled(most, top/most), {3, -1, 2}, {top, 1}, {0, 0}, filled(most+1, 1)}
}

func TestArgumentsAreNotChanged(t *testing.T) {
	for _, weights := range shapes() {
		for _, total := range []int{-1, 0, 1, 4, 18, most, top} {
			for _, s := range splitters() {
				x := roomy(weights)
				l, _ := s.f(total, x)
				spoil(l)
				if !isKept(x, weights) {
					t.Fatalf("%s changes %v, or its result shares its memory", s.name, short(weights))
				}
			}
		}
		for _, l := range append(shapes(), []int{3, 1}, filled(len(weights), 2)) {
			x, y := roomy(l), roomy(weights)
			share.Fair(x, y)
			if !isKept(x, l) || !isKept(y, weights) {
				t.Fatalf("Fair changes %v or %v", short(l), short(weights))
			}
		}
		x := roomy(weights)
		share.Fair(x, x)
		if !isKept(x, weights) {
			t.Fatalf("Fair changes %v", short(weights))
		}
	}
}

func TestResultsShareNoMemory(t *testing.T) {
	even := splitter{"Even", func(total int, weights []int) ([]int, api.Errno) { return share.Even(total, len(weights)) }}
	for _, s := range append(splitters(), even) {
		for _, d := range []division{{4, []int{10, 5}}, {0, []int{0, 0}}, {15, []int{10, 5}}, {7, []int{7}}, {0, []int{3, 4}}, {most, filled(most, 1)}, {most + 1, filled(most, 1)}} {
			l := parts(t, s, d)
			kept := slices.Clone(l)
			spoil(parts(t, s, d))
			if !slices.Equal(l, kept) {
				t.Errorf("two results of %s share memory", s.name)
			}
			if again := parts(t, s, d); !slices.Equal(again, kept) {
				t.Errorf("%s keeps memory of its result", s.name)
			}
		}
	}
}
