package align_test

import (
	"math"
	"slices"
	"testing"

	"papermill/align"
	"papermill/api"
)

// P14.1

// outside are counts below 0 or above MaxLength.
func outside() []int {
	return []int{
		-1, -2, -most, -end, -end - 1, -1 << 62, math.MinInt, math.MinInt + 1,
		end + 1, end + 2, 2 * end, 1 << 50, 1 << 62, math.MaxInt - 1, math.MaxInt,
	}
}

// refusal are marks with the error of Check.
type refusal struct {
	l []api.Mark
	e api.Errno
}

func refusedWith(e api.Errno, lists ...[]api.Mark) []refusal {
	var l []refusal
	for _, m := range lists {
		l = append(l, refusal{m, e})
	}
	return l
}

// tooMany are marks that have no other error, marks with one of the other errors, and marks with both.
func tooMany() []refusal {
	over := stairs(most+1, mark(5, 3), 2, 3)
	l := refusedWith(api.ErrFull, over, changed(over, 0, mark(-1, 3)), changed(over, most/2, mark(103, end+1)), changed(over, most, mark(math.MinInt, math.MaxInt)), changed(over, 1, mark(5, 3)), changed(over, most, mark(0, 0)))
	for _, n := range []int{most + 1, most + 2, 2*most - 1, 2 * most, 1000, 65536, 65537} {
		l = append(l, refusedWith(api.ErrFull, stairs(n, mark(0, 0), 1, 1), stairs(n, mark(end-n+1, 0), 1, end/n), stairs(n, mark(n, n), -1, -1), stairs(n, mark(-1, -1), 1, 1), stairs(n, mark(end, end), 1, 1))...)
		l = append(l, refusedWith(api.ErrFull, repeated(n, 0, 0), repeated(n, end, end), repeated(n, -1, 0), repeated(n, 0, end+1), repeated(n, math.MinInt, math.MaxInt))...)
	}
	return l
}

// tooFew are no marks, and one mark in range or outside.
func tooFew() []refusal {
	l := refusedWith(api.ErrEmpty, nil, []api.Mark{}, marks(0, 0), marks(0, end), marks(end, 0), marks(end, end), marks(7, 9))
	for _, n := range outside() {
		l = append(l, refusedWith(api.ErrEmpty, marks(n, 0), marks(5, n), marks(n, n))...)
	}
	return l
}

// outOfRange has an A, a B or both outside, in the first, a middle and the last mark; of most lists other marks are out of order besides, before it or behind it.
func outOfRange() []refusal {
	l := refusedWith(api.ErrRange, marks(-1, 0, 0, 1), marks(0, -1, 1, 0), marks(end, end-1, end+1, end), marks(end-1, end, end, end+1), marks(0, 0, 1, 1, 2, end+1), marks(-3, -2, -2, -1), marks(end+1, end+1, end+2, end+2), marks(math.MinInt, math.MinInt, math.MaxInt, math.MaxInt), marks(0, 0, math.MaxInt, math.MaxInt), marks(math.MinInt, 0, 0, 1))
	for _, others := range [][]api.Mark{
		marks(3, 4, 10, 12), marks(10, 12, 3, 4), marks(5, 5, 5, 5), marks(0, 0, end, end), marks(end, end, 0, 0),
		marks(3, 4, 10, 12, 20, 13), marks(3, 4, 3, 4, 20, 13), marks(0, 9, 8, 8, 7, 7), marks(0, 0, 1, 1, 1, 2), repeated(4, 0, 0), repeated(5, end, end),
		stairs(most, mark(1, 1), 1, 1), stairs(most, mark(most, most), -1, -1), repeated(most, 7, 7),
	} {
		for _, n := range outside() {
			for _, i := range []int{0, 1, len(others) / 2, len(others) - 1} {
				m := others[i]
				l = append(l, refusedWith(api.ErrRange, changed(others, i, mark(n, m.B)), changed(others, i, mark(m.A, n)), changed(others, i, mark(n, n)))...)
			}
		}
	}
	return l
}

// outOfOrder has at the second, a middle and the last mark an A, a B or both that are not greater than those of the mark before.
func outOfOrder() []refusal {
	l := refusedWith(api.ErrOrder,
		repeated(2, 0, 0), repeated(2, end, end), repeated(most, 0, 0), repeated(most, end, end), marks(0, 0, 0, end), marks(0, 0, end, 0), marks(end, 0, end, end), marks(0, end, end, end), marks(0, end, end, 0), marks(end, 0, 0, end), marks(end, end, 0, 0), marks(1, 1, 0, 0),
		// These are greater than the mark before the one before, or the first one.
		marks(0, 0, 5, 5, 3, 7), marks(0, 0, 5, 5, 7, 3), marks(0, 0, 5, 5, 3, 3), marks(5, 5, 0, 6, 10, 10), marks(0, 0, 5, 5, 3, 3, 9, 9),
		stairs(most, mark(most, most), -1, -1), stairs(most, mark(0, most), 1, -1), stairs(most, mark(most, 0), -1, 1), stairs(most, mark(0, 4), 1, 0), stairs(most, mark(4, 0), 0, 1),
	)
	for _, others := range [][]api.Mark{marks(10, 20, 30, 40), marks(10, 20, 30, 40, 50, 60), marks(9, 9, 10, 10, 11, 11), stairs(most, mark(100, 50), 10, 20), stairs(most, mark(1, 1), 1, 1), changed(stairs(most, mark(1, 1), 1, 1), most-1, mark(end, end))} {
		for _, i := range []int{1, len(others) / 2, len(others) - 1} {
			m, p := others[i], others[i-1]
			for _, less := range []int{0, 1, 2, 5} {
				a, b := max(p.A-less, 0), max(p.B-less, 0)
				l = append(l, refusedWith(api.ErrOrder, changed(others, i, mark(a, m.B)), changed(others, i, mark(m.A, b)), changed(others, i, mark(a, b)))...)
			}
		}
	}
	return l
}

func refusals() []refusal { return slices.Concat(tooMany(), tooFew(), outOfRange(), outOfOrder()) }

func TestCheckAccepts(t *testing.T) {
	for _, l := range all() {
		if e := align.Check(l); e != api.OK {
			t.Fatalf("Check(%v of %d) = %d", brief(l), len(l), e)
		}
	}
}

func TestCheckRefuses(t *testing.T) {
	for _, r := range refusals() {
		if e := align.Check(r.l); e != r.e {
			t.Fatalf("Check(%v of %d) = %d, not %d", brief(r.l), len(r.l), e, r.e)
		}
	}
}

// caller is a function that is given marks; f returns how many of its other results are not zero values.
type caller struct {
	name string
	f    func(l []api.Mark) (int, api.Errno)
}

func others(counts ...int) int {
	n := 0
	for _, x := range counts {
		if x != 0 {
			n++
		}
	}
	return n
}

func forward(l []api.Mark, a int) (int, api.Errno) {
	b, e := align.Forward(l, a)
	return others(b), e
}

func back(l []api.Mark, b int) (int, api.Errno) {
	a, e := align.Back(l, b)
	return others(a), e
}

func cover(l []api.Mark, s api.Span) (int, api.Errno) {
	c, e := align.Cover(l, s)
	return others(c.From, c.To), e
}

func slip(l []api.Mark) (int, api.Errno) {
	least, greatest, e := align.Slip(l)
	return others(least, greatest), e
}

func thin(l []api.Mark) (int, api.Errno) {
	m, e := align.Thin(l)
	return len(m), e
}

// callers also have other arguments with errors of their own, and empty spans.
func callers() []caller {
	l := []caller{{"Slip", slip}, {"Thin", thin}}
	for _, x := range []int{0, 1, 5, 10, 25, end, -1, end + 1, math.MinInt, math.MaxInt} {
		l = append(l,
			caller{"Forward", func(m []api.Mark) (int, api.Errno) { return forward(m, x) }},
			caller{"Back", func(m []api.Mark) (int, api.Errno) { return back(m, x) }},
		)
	}
	for _, s := range []api.Span{part(0, 1), part(5, 8), part(0, end+1), part(0, 0), part(-3, -3), part(math.MinInt, math.MinInt), part(-1, 1), part(1, 0), part(math.MinInt, math.MaxInt), part(math.MaxInt, math.MinInt)} {
		l = append(l, caller{"Cover", func(m []api.Mark) (int, api.Errno) { return cover(m, s) }})
	}
	return l
}

// expectRefused fails unless a function returns the error and nothing else.
func expectRefused(t *testing.T, name string, l []api.Mark, n int, e api.Errno, want api.Errno) {
	t.Helper()
	if n != 0 || e != want {
		t.Fatalf("%s of %v of %d returns %d other results and %d, not %d", name, brief(l), len(l), n, e, want)
	}
}

func TestEveryFunctionReturnsTheErrorOfCheck(t *testing.T) {
	for _, c := range callers() {
		for _, r := range refusals() {
			n, e := c.f(r.l)
			expectRefused(t, c.name, r.l, n, e, r.e)
		}
	}
}

// P14.2

func TestForwardExamples(t *testing.T) {
	bent := marks(0, 100, 10, 105, 20, 125)
	for _, c := range []struct {
		l    []api.Mark
		a, b int
	}{
		{bent, 0, 100}, {bent, 1, 100}, {bent, 2, 101}, {bent, 5, 102}, {bent, 6, 103}, {bent, 8, 104}, {bent, 9, 104}, {bent, 10, 105}, {bent, 11, 107}, {bent, 15, 115}, {bent, 19, 123}, {bent, 20, 125},
		{marks(3, 7, 4, 8), 3, 7}, {marks(3, 7, 4, 8), 4, 8}, {marks(0, 0, 3, 1), 2, 0}, {marks(0, 0, 3, 1), 3, 1}, {marks(0, 0, 3, 5), 1, 1}, {marks(0, 0, 3, 5), 2, 3}, {marks(10, 50, 20, 60), 17, 57}, {marks(10, 5, 20, 45), 13, 17},
		{marks(0, 0, 1, end), 0, 0}, {marks(0, 0, 1, end), 1, end}, {marks(0, 0, end, 1), 0, 0}, {marks(0, 0, end, 1), 1, 0}, {marks(0, 0, end, 1), end - 1, 0}, {marks(0, 0, end, 1), end, 1},
		{marks(0, 0, end, end), 0, 0}, {marks(0, 0, end, end), 1, 1}, {marks(0, 0, end, end), half + 1, half + 1}, {marks(0, 0, end, end), end - 1, end - 1}, {marks(0, 0, end, end), end, end},
		{marks(0, 0, end, end-1), 1, 0}, {marks(0, 0, end, end-1), half, half - 1}, {marks(0, 0, end, end-1), end - 1, end - 2}, {marks(0, 0, end, end-1), end, end - 1},
		{marks(0, 0, end-1, end), 1, 1}, {marks(0, 0, end-1, end), end - 2, end - 2}, {marks(0, 0, end-1, end), end - 1, end}, {marks(0, 1, end, end), half, half}, {marks(0, 2, end, end), half, half + 1}, {marks(0, 3, end, end), half, half + 1}, {marks(0, 3, end, end), 1, 3},
		{stairs(most, mark(0, 0), 3, 2), 94, 62}, {stairs(most, mark(0, 0), 3, 2), 3 * (most - 1), 2 * (most - 1)}, {stairs(most, mark(5, 9), 2, 3), 6, 10}, {stairs(most, mark(5, 9), 2, 3), 7, 12}, {stairs(most, mark(5, 9), 2, 3), 130, 196},
	} {
		expectForward(t, c.l, c.a, c.b)
	}
}

func TestForward(t *testing.T) {
	for _, l := range all() {
		for _, a := range placesA(l) {
			expectForward(t, l, a, shown(l, a))
		}
	}
}

func TestForwardAtMarks(t *testing.T) {
	for _, l := range all() {
		for _, m := range l {
			expectForward(t, l, m.A, m.B)
		}
	}
}

// beyond are integers that are not from least to greatest: next to these, and far away.
func beyond(least int, greatest int) []int {
	l := []int{least - 1, least - 2, -1, -end, math.MinInt, math.MinInt + 1, greatest + 1, greatest + 2, end + 1, 2 * end, 1 << 62, math.MaxInt - 1, math.MaxInt}
	if least > 0 {
		l = append(l, 0, least/2)
	}
	if greatest < end {
		l = append(l, end, greatest+(end-greatest+1)/2)
	}
	return l
}

func TestForwardRefuses(t *testing.T) {
	for _, l := range all() {
		for _, a := range beyond(first(l).A, last(l).A) {
			n, e := forward(l, a)
			expectRefused(t, "Forward", l, n, e, api.ErrRange)
		}
	}
}

// P14.3

func TestBackExamples(t *testing.T) {
	bent := marks(0, 100, 10, 105, 20, 125)
	for _, c := range []struct {
		l    []api.Mark
		b, a int
	}{
		// Two neighbours show the same up to 10, and behind it every other count is passed over.
		{bent, 100, 0}, {bent, 101, 2}, {bent, 102, 4}, {bent, 103, 6}, {bent, 104, 8}, {bent, 105, 10}, {bent, 106, 11}, {bent, 107, 11}, {bent, 108, 12}, {bent, 124, 20}, {bent, 125, 20},
		{marks(3, 7, 4, 8), 7, 3}, {marks(3, 7, 4, 8), 8, 4}, {marks(0, 0, 3, 1), 0, 0}, {marks(0, 0, 3, 1), 1, 3}, {marks(0, 0, 3, 5), 1, 1}, {marks(0, 0, 3, 5), 2, 2}, {marks(0, 0, 3, 5), 3, 2}, {marks(0, 0, 3, 5), 4, 3}, {marks(10, 50, 20, 60), 57, 17}, {marks(10, 5, 20, 45), 17, 13}, {marks(10, 5, 20, 45), 18, 14},
		{marks(0, 0, 1, end), 0, 0}, {marks(0, 0, 1, end), 1, 1}, {marks(0, 0, 1, end), end - 1, 1}, {marks(0, 0, 1, end), end, 1}, {marks(0, 0, end, 1), 0, 0}, {marks(0, 0, end, 1), 1, end},
		{marks(0, 0, end, end), 1, 1}, {marks(0, 0, end, end), half + 1, half + 1}, {marks(0, 0, end, end), end - 1, end - 1}, {marks(0, 0, end, end), end, end},
		{marks(0, 0, end, end-1), 0, 0}, {marks(0, 0, end, end-1), 1, 2}, {marks(0, 0, end, end-1), half, half + 1}, {marks(0, 0, end, end-1), end - 1, end},
		{marks(0, 0, end-1, end), 1, 1}, {marks(0, 0, end-1, end), end - 2, end - 2}, {marks(0, 0, end-1, end), end - 1, end - 1}, {marks(0, 0, end-1, end), end, end - 1}, {marks(0, 2, end, end), 2, 0}, {marks(0, 2, end, end), half + 1, half}, {marks(0, 2, end, end), half + 2, half + 2},
		{stairs(most, mark(0, 0), 3, 2), 62, 93}, {stairs(most, mark(0, 0), 3, 2), 63, 95}, {stairs(most, mark(0, 0), 3, 2), 2 * (most - 1), 3 * (most - 1)}, {stairs(most, mark(5, 9), 2, 3), 11, 7}, {stairs(most, mark(5, 9), 2, 3), 196, 130},
	} {
		expectBack(t, c.l, c.b, c.a)
	}
}

func TestBack(t *testing.T) {
	for _, l := range all() {
		for _, b := range placesB(l) {
			if a, e := align.Back(l, b); !isFirst(l, a, b) || e != api.OK {
				t.Fatalf("Back(%v of %d, %d) = %d, %d", brief(l), len(l), b, a, e)
			}
		}
	}
}

// Counter A shows everything one after the other until B shows enough.
func TestBackOfShortLists(t *testing.T) {
	for _, l := range small() {
		a := first(l).A
		for b := first(l).B; b <= last(l).B; b++ {
			for shown(l, a) < b {
				a++
			}
			expectBack(t, l, b, a)
		}
	}
}

func TestBackAtMarks(t *testing.T) {
	for _, l := range all() {
		for _, m := range l {
			expectBack(t, l, m.B, m.A)
		}
	}
}

func TestBackRefuses(t *testing.T) {
	for _, l := range all() {
		for _, b := range beyond(first(l).B, last(l).B) {
			n, e := back(l, b)
			expectRefused(t, "Back", l, n, e, api.ErrRange)
		}
	}
}

// P14.4

func TestCoverExamples(t *testing.T) {
	bent := marks(0, 100, 10, 105, 20, 125)
	for _, c := range []struct {
		name string
		l    []api.Mark
		s, c api.Span
	}{
		{"the example", bent, part(0, 11), part(100, 106)}, {"everything", bent, part(0, 21), part(100, 126)}, {"up to a mark", bent, part(7, 10), part(103, 105)}, {"from a mark on", bent, part(10, 13), part(105, 110)}, {"both sides of a mark", bent, part(9, 12), part(104, 108)},
		{"the first integer", bent, part(0, 1), part(100, 101)}, {"one between marks", bent, part(15, 16), part(115, 116)}, {"one at a mark", bent, part(10, 11), part(105, 106)}, {"one before a mark", bent, part(9, 10), part(104, 105)}, {"the last integer", bent, part(20, 21), part(125, 126)}, {"integers with one result", bent, part(4, 6), part(102, 103)}, {"a count of B is passed over", bent, part(11, 13), part(107, 110)},
		{"two marks", marks(3, 7, 4, 8), part(3, 5), part(7, 9)}, {"across several marks", marks(0, 0, 2, 6, 4, 7, 9, 8), part(1, 9), part(3, 8)}, {"64 marks", stairs(most, mark(5, 9), 2, 3), part(5, 132), part(9, 199)},
		{"all lengths", marks(0, 0, end, end), part(0, end+1), part(0, end+1)}, {"great lengths", marks(0, 0, end, end-1), part(half, end), part(half-1, end-1)}, {"the last great length", marks(0, 0, end, end), part(end, end+1), part(end, end+1)}, {"as slow as can be", marks(0, 0, end, 1), part(0, end), part(0, 1)}, {"as slow as can be, and the end", marks(0, 0, end, 1), part(1, end+1), part(0, 2)}, {"as fast as can be", marks(0, 0, 1, end), part(0, 2), part(0, end+1)},
		{"nothing inside", bent, part(5, 5), part(0, 0)}, {"nothing at a mark", bent, part(10, 10), part(0, 0)}, {"nothing at the beginning", bent, part(0, 0), part(0, 0)}, {"nothing at the end", bent, part(20, 20), part(0, 0)}, {"nothing behind the end", bent, part(21, 21), part(0, 0)}, {"nothing before the beginning", marks(50, 9, 60, 10), part(49, 49), part(0, 0)},
	} {
		if s, e := align.Cover(c.l, c.s); s != c.c || e != api.OK {
			t.Errorf("%s: Cover = %v, %d, not %v", c.name, s, e, c.c)
		}
	}
}

// The least and the greatest value are looked for among those of all integers.
func TestCoverOfShortLists(t *testing.T) {
	for _, l := range small() {
		for from := first(l).A; from <= last(l).A; from++ {
			least, greatest := end, 0
			for to := from + 1; to <= last(l).A+1; to++ {
				b := shown(l, to-1)
				least, greatest = min(least, b), max(greatest, b)
				expectCover(t, l, part(from, to), part(least, greatest+1))
			}
		}
	}
}

func TestCoverOfLongLists(t *testing.T) {
	for _, l := range slices.Concat(walks(), steep(), full()) {
		at := placesA(l)
		for i, x := range at {
			for k := i; k < len(at); k += 1 + (k-i)/2 {
				expectCover(t, l, part(x, at[k]+1), part(shown(l, x), shown(l, at[k])+1))
			}
		}
		expectCover(t, l, part(first(l).A, last(l).A+1), part(first(l).B, last(l).B+1))
	}
}

func TestCoverOfEmptySpans(t *testing.T) {
	for _, l := range all() {
		for _, x := range slices.Concat(placesA(l), beyond(first(l).A, last(l).A)) {
			expectCover(t, l, part(x, x), part(0, 0))
		}
	}
}

// badSpans are spans with integers below from or above to, and spans whose ends are not in order, also inside.
func badSpans(from int, to int) []api.Span {
	l := []api.Span{
		part(from-1, to+1), part(from, to+2), part(from-1, to+2), part(from-1, from), part(from-1, from+1), part(from-2, from-1), part(to+1, to+2), part(to, to+2), part(to+1, to+3),
		part(from+1, from), part(to, to-1), part(to+1, to), part(to+1, from), part(to+2, to+1), part(from, from-1), part(from-1, from-2),
		part(0, -1), part(1, -1), part(-1, -2), part(end+3, end+2), part(0, math.MinInt), part(-1, math.MinInt), part(1, math.MinInt), part(math.MinInt+1, math.MinInt), part(math.MaxInt, math.MinInt), part(math.MaxInt, math.MaxInt-1), part(math.MaxInt, 0), part(math.MaxInt, to), part(from, math.MinInt), part(to, math.MinInt),
		part(math.MinInt, math.MaxInt), part(math.MinInt, math.MinInt+1), part(math.MinInt, 0), part(math.MaxInt-1, math.MaxInt), part(0, math.MaxInt), part(-1, math.MaxInt), part(-end, end), part(-1, end+2), part(end+1, 2*end),
	}
	for _, x := range []int{from, from + 1, to, to + 1} {
		l = append(l, part(math.MinInt, x), part(math.MinInt+1, x), part(-1, x))
	}
	for _, x := range []int{from - 1, from, to, to + 1} {
		l = append(l, part(x, math.MaxInt), part(x, math.MaxInt-1), part(x, end+2))
	}
	return l
}

func TestCoverRefuses(t *testing.T) {
	for _, l := range all() {
		for _, s := range badSpans(first(l).A, last(l).A) {
			n, e := cover(l, s)
			expectRefused(t, "Cover", l, n, e, api.ErrRange)
		}
	}
}

// P14.5

func TestSlipExamples(t *testing.T) {
	for _, c := range []struct {
		l               []api.Mark
		least, greatest int
	}{
		{marks(0, 100, 10, 105, 20, 125), 95, 105}, {marks(0, 0, 1, 1), 0, 0}, {marks(5, 7, 9, 11), 2, 2}, {marks(7, 5, 11, 9), -2, -2}, {stairs(most, mark(0, 0), 1, 1), 0, 0}, {stairs(most, mark(0, 5), 3, 2), 5 - (most - 1), 5}, {stairs(most, mark(5, 0), 2, 3), -5, most - 1 - 5},
		// The least one is that of the first, a middle and the last mark; so is the greatest one.
		{marks(0, 0, 5, 9, 10, 12), 0, 4}, {marks(0, 0, 5, 8, 10, 14), 0, 4}, {marks(0, 9, 10, 15, 20, 27), 5, 9}, {marks(0, 7, 10, 15, 20, 29), 5, 9}, {marks(0, 9, 10, 17, 20, 25), 5, 9}, {marks(0, 7, 10, 19, 20, 25), 5, 9},
		{marks(10, 5, 20, 8, 30, 20), -12, -5}, {marks(10, 1, 20, 8, 30, 25), -12, -5}, {marks(10, 3, 20, 8, 30, 25, 40, 32), -12, -5}, {marks(10, 5, 20, 10, 30, 18), -12, -5}, {marks(10, 5, 20, 15, 30, 18), -12, -5},
		{marks(10, 8, 20, 20, 30, 33), -2, 3}, {marks(10, 13, 20, 20, 30, 28), -2, 3}, {marks(10, 10, 20, 18, 30, 33), -2, 3}, {marks(10, 10, 20, 23, 30, 30), 0, 3}, {marks(10, 10, 20, 18, 30, 30), -2, 0}, {marks(10, 8, 20, 20, 30, 29), -2, 0}, {marks(10, 12, 20, 20, 30, 31), 0, 2},
		{marks(0, 0, end, end), 0, 0}, {marks(0, 0, 1, end), 0, end - 1}, {marks(0, 0, end, 1), 1 - end, 0}, {marks(0, end-1, 1, end), end - 1, end - 1}, {marks(end-1, 0, end, 1), 1 - end, 1 - end}, {marks(0, 0, 1, end-1, end, end), 0, end - 2}, {marks(0, 0, end-1, 1, end, end), 2 - end, 0}, {marks(0, 0, 1, half, half+1, half+1, end, end), 0, half - 1},
	} {
		expectSlip(t, c.l, c.least, c.greatest)
	}
}

func TestSlip(t *testing.T) {
	for _, l := range all() {
		slips := make([]int, len(l))
		for i, m := range l {
			slips[i] = m.B - m.A
		}
		slices.Sort(slips)
		expectSlip(t, l, slips[0], slips[len(slips)-1])
	}
}

// One mark slips more or less than all others, wherever it is.
func TestSlipOfOneMark(t *testing.T) {
	for _, count := range []int{2, 3, 5, most} {
		for _, from := range []api.Mark{mark(2, 1000), mark(1000, 2), mark(70, 70), mark(70, 69), mark(70, 71), mark(end/2, 3), mark(3, end/2)} {
			others := stairs(count, from, 10, 10)
			slip := from.B - from.A
			for i, m := range others {
				for _, n := range []int{1, 2} {
					expectSlip(t, changed(others, i, mark(m.A, m.B+n)), slip, slip+n)
					expectSlip(t, changed(others, i, mark(m.A, m.B-n)), slip-n, slip)
					expectSlip(t, changed(others, i, mark(m.A+n, m.B)), slip-n, slip)
					expectSlip(t, changed(others, i, mark(m.A-n, m.B)), slip, slip+n)
				}
			}
		}
	}
}

// P14.6

func TestThinExamples(t *testing.T) {
	ends := marks(0, 0, end, end)
	for _, c := range []struct {
		name    string
		l, kept []api.Mark
	}{
		{"the example", marks(0, 0, 10, 5, 20, 10, 30, 20), marks(0, 0, 20, 10, 30, 20)},
		{"two marks", marks(3, 7, 4, 8), marks(3, 7, 4, 8)}, {"two marks far away", ends, ends}, {"three marks in one line", marks(1, 2, 2, 4, 3, 6), marks(1, 2, 3, 6)}, {"three marks", marks(1, 2, 2, 4, 3, 7), marks(1, 2, 2, 4, 3, 7)}, {"uneven distances in one line", marks(1, 2, 7, 6, 10, 8, 16, 12), marks(1, 2, 16, 12)},
		{"64 marks in one line", stairs(most, mark(5, 9), 2, 3), marks(5, 9, 5+2*(most-1), 9+3*(most-1))}, {"64 marks and lines between the ends", stairs(most, mark(0, 0), end/most, end/most), marks(0, 0, (most-1)*(end/most), (most-1)*(end/most))},
		{"none is redundant", marks(0, 0, 1, 1, 2, 3, 3, 4, 4, 6), marks(0, 0, 1, 1, 2, 3, 3, 4, 4, 6)}, {"several one behind another", marks(0, 0, 1, 1, 2, 2, 3, 3, 4, 5, 5, 7, 6, 9, 7, 10), marks(0, 0, 3, 3, 6, 9, 7, 10)}, {"the first one only", marks(0, 0, 1, 1, 2, 2, 3, 4), marks(0, 0, 2, 2, 3, 4)}, {"the last one only", marks(0, 0, 1, 2, 2, 3, 3, 4), marks(0, 0, 1, 2, 3, 4)},
		{"two lines with one slope", marks(0, 0, 1, 1, 2, 2, 3, 4, 4, 5, 5, 6), marks(0, 0, 2, 2, 3, 4, 5, 6)}, {"on the line of the ends, with others between", marks(0, 0, 2, 1, 4, 4, 5, 7, 8, 8), marks(0, 0, 2, 1, 4, 4, 5, 7, 8, 8)},
		{"one above the line", marks(0, 0, 10, 11, 20, 20), marks(0, 0, 10, 11, 20, 20)}, {"one below the line", marks(0, 0, 10, 9, 20, 20), marks(0, 0, 10, 9, 20, 20)}, {"a quotient that is rounded down to the mark", marks(0, 0, 1, 1, 2, 3), marks(0, 0, 1, 1, 2, 3)}, {"a quotient that is rounded up to the mark", marks(0, 0, 1, 2, 2, 3), marks(0, 0, 1, 2, 2, 3)},
		{"in the middle of all lengths", marks(0, 0, half, half, end, end), ends}, {"one above the middle of all lengths", marks(0, 0, half, half+1, end, end), marks(0, 0, half, half+1, end, end)}, {"one below it", marks(0, 0, half, half-1, end, end), marks(0, 0, half, half-1, end, end)}, {"one behind it", marks(0, 0, half+1, half, end, end), marks(0, 0, half+1, half, end, end)},
		{"one before the end", marks(0, 0, end-1, end-1, end, end), ends}, {"one behind the beginning", marks(0, 0, 1, 1, end, end), ends}, {"all three", marks(0, 0, 1, 1, half, half, end-1, end-1, end, end), ends}, {"only the middle", marks(0, 0, 1, 2, half, half+1, end-2, end-1, end, end), marks(0, 0, 1, 2, end-2, end-1, end, end)},
		// Both products are about 2^68, and they differ by 1.
		{"products that differ by 1", marks(0, 0, end-1, end-2, end, end-1), marks(0, 0, end-1, end-2, end, end-1)}, {"products that differ by -1", marks(0, 0, end-2, end-1, end-1, end), marks(0, 0, end-2, end-1, end-1, end)}, {"products that differ by 1, before a redundant mark", marks(0, 0, end-2, end-3, end-1, end-2, end, end-1), marks(0, 0, end-2, end-3, end, end-1)},
		// These products differ by a power of 2.
		{"products that differ by 2^64", marks(0, 0, 1<<30, 1<<31, end, end), marks(0, 0, 1<<30, 1<<31, end, end)}, {"products that differ by -2^64", marks(0, 0, 1<<31, 1<<30, end, end), marks(0, 0, 1<<31, 1<<30, end, end)}, {"products that differ by 2^65", marks(0, 0, 1<<31, 1<<32, end, end), marks(0, 0, 1<<31, 1<<32, end, end)}, {"products that differ by 2^63", marks(0, 0, 1<<29, 1<<30, end, end), marks(0, 0, 1<<29, 1<<30, end, end)}, {"products that differ by 2^66", marks(0, 0, 1<<32, 1<<33, end, end), marks(0, 0, 1<<32, 1<<33, end, end)},
	} {
		if m, e := align.Thin(c.l); !slices.Equal(m, c.kept) || e != api.OK {
			t.Errorf("%s: Thin = %v, %d, not %v", c.name, brief(m), e, brief(c.kept))
		}
		if m, e := align.Thin(turned(c.l)); !slices.Equal(m, turned(c.kept)) || e != api.OK {
			t.Errorf("%s, the counters exchanged: Thin = %v, %d, not %v", c.name, brief(m), e, brief(turned(c.kept)))
		}
	}
}

func TestThin(t *testing.T) {
	for _, l := range all() {
		expectThin(t, l, thinned(l))
	}
}

// One mark misses the line of all others by 1, wherever it is: it is kept, and so are its neighbours.
func TestThinOfOneMarkBesideTheLine(t *testing.T) {
	for _, step := range []api.Mark{mark(5, 7), mark(10, 10), mark(9, 2), mark(end/most, end/most-1), mark(end/most-3, 2), mark(2, end/most-3)} {
		for _, count := range []int{3, 4, 5, 6, most} {
			line := stairs(count, mark(2, 3), step.A, step.B)
			for i := 1; i < count-1; i++ {
				m := line[i]
				kept := line[i-1 : i+2]
				if i > 1 {
					kept = append(marks(2, 3), kept...)
				}
				if i < count-2 {
					kept = append(kept[:len(kept):len(kept)], last(line))
				}
				for _, beside := range []api.Mark{mark(m.A, m.B+1), mark(m.A, m.B-1), mark(m.A+1, m.B), mark(m.A-1, m.B)} {
					expectThin(t, changed(line, i, beside), changed(kept, slices.Index(kept, m), beside))
				}
			}
		}
	}
}

// P14.7

// valid returns the result of a function, and fails if it returns an error.
func valid[T any](t *testing.T, l []api.Mark, result T, e api.Errno) T {
	t.Helper()
	if e != api.OK {
		t.Fatalf("%v of %d: %d", brief(l), len(l), e)
	}
	return result
}

func TestForwardNeverDecreases(t *testing.T) {
	for _, l := range all() {
		before := 0
		for _, a := range placesA(l) {
			b, e := align.Forward(l, a)
			if b = valid(t, l, b, e); b < before {
				t.Fatalf("Forward(%v of %d, %d) = %d, after %d", brief(l), len(l), a, b, before)
			}
			before = b
		}
	}
}

func TestForwardOfBack(t *testing.T) {
	for _, l := range all() {
		for _, b := range placesB(l) {
			a, e := align.Back(l, b)
			a = valid(t, l, a, e)
			x, e := align.Forward(l, a)
			if x = valid(t, l, x, e); x < b {
				t.Fatalf("Forward(%v of %d, %d) = %d, but Back of %d is %d", brief(l), len(l), a, x, b, a)
			}
			for _, less := range []int{1, 2, 3, (a - first(l).A) / 2, a - first(l).A} {
				if less == 0 || a-less < first(l).A {
					continue
				}
				x, e := align.Forward(l, a-less)
				if x = valid(t, l, x, e); x >= b {
					t.Fatalf("Forward(%v of %d, %d) = %d, but Back of %d is %d", brief(l), len(l), a-less, x, b, a)
				}
			}
		}
	}
}

func TestForwardOfEverySmallerIntegerThanBack(t *testing.T) {
	for _, l := range small() {
		for b := first(l).B; b <= last(l).B; b++ {
			back, e := align.Back(l, b)
			back = valid(t, l, back, e)
			for a := first(l).A; a < back; a++ {
				x, e := align.Forward(l, a)
				if x = valid(t, l, x, e); x >= b {
					t.Fatalf("Forward(%v, %d) = %d, but Back of %d is %d", l, a, x, b, back)
				}
			}
		}
	}
}

func TestThinnedMarksShowTheSame(t *testing.T) {
	for _, l := range all() {
		m, e := align.Thin(l)
		m = valid(t, l, m, e)
		for _, a := range placesA(l) {
			b, e := align.Forward(l, a)
			expectForward(t, m, a, valid(t, l, b, e))
		}
		for _, a := range beyond(first(l).A, last(l).A) {
			n, e := forward(m, a)
			expectRefused(t, "Forward of thinned marks", m, n, e, api.ErrRange)
		}
	}
}

func TestThinnedMarksAreNotThinnedFurther(t *testing.T) {
	for _, l := range all() {
		m, e := align.Thin(l)
		m = valid(t, l, m, e)
		expectThin(t, m, m)
	}
}

// Memory

// behind is what lies in the memory of an argument behind its end.
func behind() []api.Mark { return repeated(2*most, -5, -9) }

// roomy is a copy of l with room behind it.
func roomy(l []api.Mark) []api.Mark { return slices.Concat(l, behind())[:len(l)] }

// isKept reports whether l is still what roomy returned for kept.
func isKept(l []api.Mark, kept []api.Mark) bool {
	return slices.Equal(l[:len(kept)+2*most], slices.Concat(kept, behind()))
}

// spoil also writes to the room behind l, which belongs to a result as well.
func spoil(l []api.Mark) {
	l = l[:cap(l)]
	for i := range l {
		l[i] = mark(-7, -8)
	}
}

// shapes are marks of which all, some and none are redundant.
func shapes() [][]api.Mark {
	return slices.Concat(steep(), full(), [][]api.Mark{marks(0, 100, 10, 105, 20, 125), marks(0, 0, 10, 5, 20, 10, 30, 20), marks(3, 7, 4, 8), marks(1, 2, 2, 4, 3, 6), marks(0, 0, 1, 1, 2, 3, 3, 4, 4, 6)})
}

func TestArgumentsAreNotChanged(t *testing.T) {
	lists := shapes()
	for i, r := range refusals() {
		if i%7 == 0 || len(r.l) < 5 {
			lists = append(lists, r.l)
		}
	}
	for _, l := range lists {
		x := roomy(l)
		align.Check(x)
		for _, c := range callers() {
			c.f(x)
		}
		m, _ := align.Thin(x)
		spoil(m)
		if !isKept(x, l) {
			t.Fatalf("a function changes %v of %d, or its result shares its memory", brief(l), len(l))
		}
	}
}

func TestResultsShareNoMemory(t *testing.T) {
	for _, l := range shapes() {
		want := thinned(l)
		x := roomy(l)
		m, e := align.Thin(x)
		spoil(x)
		if !slices.Equal(m, want) || e != api.OK {
			t.Fatalf("Thin(%v of %d) = %v of %d, %d after its argument was changed", brief(l), len(l), brief(m), len(m), e)
		}
		again, _ := align.Thin(l)
		spoil(m)
		if !slices.Equal(again, want) {
			t.Fatalf("two results of Thin(%v of %d) share memory", brief(l), len(l))
		}
		expectThin(t, l, want)
	}
}
