package align_test

import (
	"math/big"
	"slices"
	"testing"

	"papermill/align"
	"papermill/api"
)

const (
	end  = api.MaxLength
	half = end / 2
	most = api.MaxMarks
)

// third is the greatest length that fits three times.
const third = end / 3

func mark(a int, b int) api.Mark          { return api.Mark{A: a, B: b} }
func part(from int, to int) api.Span      { return api.Span{From: from, To: to} }
func first(l []api.Mark) api.Mark         { return l[0] }
func last(l []api.Mark) api.Mark          { return l[len(l)-1] }
func brief(l []api.Mark) []api.Mark       { return l[:min(len(l), 8)] }
func repeated(n int, a, b int) []api.Mark { return slices.Repeat(marks(a, b), n) }

// marks are given by what the counters show, A and B in turn.
func marks(counts ...int) []api.Mark {
	var l []api.Mark
	for i := 0; i < len(counts); i += 2 {
		l = append(l, mark(counts[i], counts[i+1]))
	}
	return l
}

// stairs are count marks on one line.
func stairs(count int, from api.Mark, a int, b int) []api.Mark {
	l := make([]api.Mark, count)
	for i := range l {
		l[i] = mark(from.A+i*a, from.B+i*b)
	}
	return l
}

// changed is l with m at the index i.
func changed(l []api.Mark, i int, m api.Mark) []api.Mark {
	l = slices.Clone(l)
	l[i] = m
	return l
}

// turned are the same marks with the counters exchanged.
func turned(l []api.Mark) []api.Mark {
	l = slices.Clone(l)
	for i, m := range l {
		l[i] = mark(m.B, m.A)
	}
	return l
}

// random returns numbers below n in an order without a rule, the same ones in every run.
func random() func(n int) int {
	x := uint64(1)
	return func(n int) int {
		x = x*6364136223846793005 + 1442695040888963407
		return int(x >> 13 % uint64(n))
	}
}

// chains are all lists of at least two marks with A from 0 to a and B from 0 to b.
func chains(a int, b int) [][]api.Mark {
	var l [][]api.Mark
	var grow func(chain []api.Mark, from api.Mark)
	grow = func(chain []api.Mark, from api.Mark) {
		if len(chain) > 1 {
			l = append(l, slices.Clone(chain))
		}
		for x := from.A; x <= a; x++ {
			for y := from.B; y <= b; y++ {
				grow(append(chain, mark(x, y)), mark(x+1, y+1))
			}
		}
	}
	grow(nil, mark(0, 0))
	return l
}

// small lists have slopes below 1, of 1 and above 1, and marks in one line wherever that can be.
func small() [][]api.Mark { return slices.Concat(chains(5, 5), chains(2, 11), chains(11, 2)) }

// walk takes its steps from a few ones, so that many marks lie on one line, or miss it by 1.
func walk(next func(n int) int, count int, longest int) []api.Mark {
	var steps [3]api.Mark
	for i := range steps {
		steps[i] = mark(1+next(longest), 1+next(longest))
	}
	m := mark(next(100), next(100))
	l := []api.Mark{m}
	for len(l) < count {
		step, times := steps[next(3)], 1+next(3)
		m = mark(m.A+times*step.A, m.B+times*step.B+next(9)/8)
		l = append(l, m)
	}
	return l
}

// walks are mixed lists of up to MaxMarks marks.
func walks() [][]api.Mark {
	var l [][]api.Mark
	next := random()
	for _, count := range []int{2, 3, 4, 5, 8, 20, most - 1, most} {
		for _, longest := range []int{1, 2, 3, 10, 1000, 1 << 20, (end - 200) / (3*count + 1)} {
			for range 6 {
				l = append(l, walk(next, count, longest))
			}
		}
	}
	return l
}

// steep lists have products that do not fit into 64 bits, or slopes as great as can be.
func steep() [][]api.Mark {
	return [][]api.Mark{
		marks(0, 0, 1, 1), marks(0, 0, 1, end), marks(0, end-1, 1, end), marks(end-1, 0, end, end), marks(end-1, end-1, end, end),
		marks(0, 0, end, end), marks(0, 0, end, end-1), marks(0, 1, end, end), marks(0, 2, end, end), marks(1, 3, end-1, end), marks(0, 0, end-3, end-7), marks(7, 0, end, half+1), marks(0, 0, 3, end), marks(0, 0, 2, end-1),
		marks(0, 0, half, half, end, end), marks(0, 0, half, half+1, end, end), marks(0, 0, half, half-1, end, end), marks(0, 0, half-1, half, end, end), marks(0, 0, 1, half, end, end), marks(0, 0, half, 1, end, end), marks(0, 0, 1, end-1, end, end), marks(0, 0, 1, 1, end, end), marks(0, 0, end-1, end-1, end, end), marks(0, 0, end-2, end-1, end-1, end),
		marks(0, 0, 1<<30, 1<<31, end, end), marks(0, 0, 1<<33, 3<<32, end, end), marks(1, 1, 1<<32, 1<<33, 1<<33, end-1, end, end), marks(0, 0, third, third+1, 2*third, 2*third+1, end, end),
	}
}

// full lists have exactly MaxMarks marks.
func full() [][]api.Mark {
	each := (end - 1) / (most - 1)
	up := stairs(most, mark(0, 0), each, each-1)
	return [][]api.Mark{
		stairs(most, mark(0, 0), 1, 1), stairs(most, mark(end-most+1, end-most+1), 1, 1), stairs(most, mark(0, 0), 1, each), stairs(most, mark(0, 17), each, 1), stairs(most, mark(1, 0), each, each),
		up, changed(up, most-1, mark(end, end)), changed(up, 0, mark(0, 1)), changed(up, most/2, mark(most/2*each, most/2*(each-1)+1)), changed(up, 1, mark(each-1, each-1)),
	}
}

func all() [][]api.Mark {
	l := slices.Concat(small(), walks())
	for _, m := range slices.Concat(steep(), full()) {
		l = append(l, m, turned(m))
	}
	return l
}

// places are what a counter may show, in ascending order: all of it, if that is not very much, and else what is near these counts and between them.
func places(counts []int) []int {
	var l []int
	for i, n := range counts[1:] {
		m := counts[i]
		if n-m <= 1000/len(counts) {
			for x := m; x <= n; x++ {
				l = append(l, x)
			}
			continue
		}
		l = append(l, m, m+1, m+2, m+3, m+(n-m)/3, m+(n-m)/2-1, m+(n-m)/2, m+(n-m)/2+1, n-(n-m)/5, n-3, n-2, n-1, n)
	}
	slices.Sort(l)
	return slices.Compact(l)
}

func placesA(l []api.Mark) []int {
	counts := make([]int, len(l))
	for i, m := range l {
		counts[i] = m.A
	}
	return places(counts)
}

func placesB(l []api.Mark) []int { return placesA(turned(l)) }

func product(a int, b int) *big.Int {
	return new(big.Int).Mul(big.NewInt(int64(a)), big.NewInt(int64(b)))
}

// shown is what counter B shows when counter A shows a, by the last two neighbouring marks around a.
func shown(l []api.Mark, a int) int {
	b := -1
	for i, n := range l[1:] {
		if m := l[i]; m.A <= a && a <= n.A {
			p := product(a-m.A, n.B-m.B)
			b = m.B + int(p.Div(p, big.NewInt(int64(n.A-m.A))).Int64())
		}
	}
	return b
}

// isFirst reports whether a is the least count of A for which B shows at least b.
func isFirst(l []api.Mark, a int, b int) bool {
	return first(l).A <= a && a <= last(l).A && shown(l, a) >= b && (a == first(l).A || shown(l, a-1) < b)
}

// thinned is what Thin must return.
func thinned(l []api.Mark) []api.Mark {
	kept := l[:1:1]
	for i := 1; i < len(l)-1; i++ {
		p, m, n := last(kept), l[i], l[i+1]
		if product(m.B-p.B, n.A-p.A).Cmp(product(n.B-p.B, m.A-p.A)) != 0 {
			kept = append(kept, m)
		}
	}
	return append(kept, last(l))
}

func expectForward(t *testing.T, l []api.Mark, a int, want int) {
	t.Helper()
	if b, e := align.Forward(l, a); b != want || e != api.OK {
		t.Fatalf("Forward(%v of %d, %d) = %d, %d, not %d", brief(l), len(l), a, b, e, want)
	}
}

func expectBack(t *testing.T, l []api.Mark, b int, want int) {
	t.Helper()
	if a, e := align.Back(l, b); a != want || e != api.OK {
		t.Fatalf("Back(%v of %d, %d) = %d, %d, not %d", brief(l), len(l), b, a, e, want)
	}
}

func expectCover(t *testing.T, l []api.Mark, s api.Span, want api.Span) {
	t.Helper()
	if c, e := align.Cover(l, s); c != want || e != api.OK {
		t.Fatalf("Cover(%v of %d, %v) = %v, %d, not %v", brief(l), len(l), s, c, e, want)
	}
}

func expectSlip(t *testing.T, l []api.Mark, least int, greatest int) {
	t.Helper()
	if x, y, e := align.Slip(l); x != least || y != greatest || e != api.OK {
		t.Fatalf("Slip(%v of %d) = %d, %d, %d, not %d, %d", brief(l), len(l), x, y, e, least, greatest)
	}
}

func expectThin(t *testing.T, l []api.Mark, want []api.Mark) {
	t.Helper()
	if m, e := align.Thin(l); !slices.Equal(m, want) || e != api.OK {
		t.Fatalf("Thin(%v of %d) = %v of %d, %d, not %v of %d", brief(l), len(l), brief(m), len(m), e, brief(want), len(want))
	}
}
