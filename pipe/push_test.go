package pipe_test

import (
	"slices"
	"testing"

	"papermill/api"
	"papermill/pipe"
)

// P19.3

func testPush(t *testing.T, p api.Pipe, in []int) api.Errno {
	t.Helper()
	before, masses := copied(p), slices.Clone(in)
	var want api.Pipe
	var leaves []int
	wanted := outcome(func() { want, leaves = modelPush(p, in) })
	after, out, e := pipe.Push(p, in)
	if e != wanted || !same(after, want) || !slices.Equal(out, leaves) {
		t.Fatalf("Push(%v, %v) = %v, %v, %d, not %v, %v, %d", p, in, after, out, e, want, leaves, wanted)
	}
	if !same(p, before) || !slices.Equal(in, masses) {
		t.Fatalf("%v and %v are changed to %v and %v", before, masses, p, in)
	}
	return wanted
}

func TestPushExamples(t *testing.T) {
	two, three := of(10, ints(6, 0), ints(0, 4)), of(12, ints(6, 0), ints(1, 4), ints(0, 1))
	third := heavy / 3
	for _, x := range []struct {
		p     api.Pipe
		in    []int
		out   []int
		plugs [][]int
	}{
		// Nothing, less than the first plug, exactly the first plug, and a part of the next one.
		{two, ints(0, 0), ints(0, 0), two.Plugs}, {two, ints(1, 0), ints(1, 0), [][]int{{5, 0}, {0, 4}, {1, 0}}}, {two, ints(2, 3), ints(5, 0), [][]int{{1, 0}, {0, 4}, {2, 3}}}, {two, ints(0, 6), ints(6, 0), [][]int{{0, 4}, {0, 6}}}, {two, ints(3, 4), ints(6, 1), [][]int{{0, 3}, {3, 4}}}, {two, ints(8, 0), ints(6, 2), [][]int{{0, 2}, {8, 0}}}, {two, ints(0, 9), ints(6, 3), [][]int{{0, 1}, {0, 9}}}, {two, ints(5, 5), ints(6, 4), [][]int{{5, 5}}},
		{three, ints(0, 6), ints(6, 0), [][]int{{1, 4}, {0, 1}, {0, 6}}}, {three, ints(0, 7), ints(6, 1), [][]int{{1, 3}, {0, 1}, {0, 7}}}, {three, ints(8, 0), ints(6, 2), [][]int{{1, 2}, {0, 1}, {8, 0}}}, {three, ints(0, 9), ints(7, 2), [][]int{{0, 2}, {0, 1}, {0, 9}}}, {three, ints(10, 0), ints(7, 3), [][]int{{0, 1}, {0, 1}, {10, 0}}}, {three, ints(11, 0), ints(7, 4), [][]int{{0, 1}, {11, 0}}}, {three, ints(0, 12), ints(7, 5), [][]int{{0, 12}}},
		{of(5, ints(5)), ints(5), ints(5), [][]int{{5}}}, {of(5, ints(5)), ints(4), ints(4), [][]int{{1}, {4}}}, {of(5, ints(5)), ints(1), ints(1), [][]int{{4}, {1}}}, {of(5, ints(5)), ints(0), ints(0), [][]int{{5}}}, {of(1, ints(1)), ints(0), ints(0), [][]int{{1}}}, {of(1, ints(1)), ints(1), ints(1), [][]int{{1}}}, {of(1, ints(0, 1)), ints(1, 0), ints(0, 1), [][]int{{1, 0}}}, {of(5, ints(2), ints(2), ints(1)), ints(4), ints(4), [][]int{{1}, {4}}}, {of(5, ints(2), ints(2), ints(1)), ints(3), ints(3), [][]int{{1}, {1}, {3}}},
		// Equal remainders: the first kinds give a gram more.
		{of(3, ints(1, 1, 1)), ints(2, 0, 0), ints(1, 1, 0), [][]int{{0, 0, 1}, {2, 0, 0}}}, {of(3, ints(1, 1, 1)), ints(0, 1, 0), ints(1, 0, 0), [][]int{{0, 1, 1}, {0, 1, 0}}}, {of(5, ints(0, 2), ints(1, 0), ints(1, 1)), ints(0, 4), ints(2, 2), [][]int{{0, 1}, {0, 4}}}, {of(6, ints(3, 3)), ints(3, 0), ints(2, 1), [][]int{{1, 2}, {3, 0}}}, {of(6, ints(0, 2, 0, 2), ints(1, 0, 0, 1)), ints(0, 0, 1, 0), ints(0, 1, 0, 0), [][]int{{0, 1, 0, 2}, {1, 0, 0, 1}, {0, 0, 1, 0}}}, {of(8, repeated(most, 1)), only(most, 7, 7), changed(repeated(most, 1), 7, 0), [][]int{only(most, 7, 1), only(most, 7, 7)}}, {of(15, ints(10, 5)), ints(2, 2), ints(3, 1), [][]int{{7, 4}, {2, 2}}},
		{of(heavy, ints(heavy)), ints(heavy), ints(heavy), [][]int{{heavy}}}, {of(heavy, ints(heavy)), ints(heavy - 1), ints(heavy - 1), [][]int{{1}, {heavy - 1}}}, {of(heavy, ints(heavy)), ints(1), ints(1), [][]int{{heavy - 1}, {1}}}, {of(heavy, ints(heavy-1), ints(1)), ints(heavy - 1), ints(heavy - 1), [][]int{{1}, {heavy - 1}}}, {of(heavy, ints(1), ints(heavy-1)), ints(2), ints(2), [][]int{{heavy - 2}, {2}}}, {of(heavy, ints(third, third, third+1)), ints(third, third, third), ints(third, third, third), [][]int{{0, 0, 1}, {third, third, third}}}, {of(heavy, ints(heavy-1, 1)), ints(0, heavy/2), ints(heavy/2, 0), [][]int{{heavy/2 - 1, 1}, {0, heavy / 2}}}, {of(heavy, ints(1, heavy-1)), ints(0, heavy/2), ints(1, heavy/2-1), [][]int{{0, heavy / 2}, {0, heavy / 2}}},
	} {
		after, out, e := pipe.Push(x.p, x.in)
		if e != api.OK || !same(after, of(x.p.Hold, x.plugs...)) || !slices.Equal(out, x.out) {
			t.Errorf("Push(%v, %v) = %v, %v, %d, not %v, %v", x.p, x.in, after, out, e, x.plugs, x.out)
		}
		testPush(t, x.p, x.in)
	}
}

func TestPushOfTooMuch(t *testing.T) {
	for _, x := range []struct {
		p  api.Pipe
		in []int
	}{
		{of(5, ints(5)), ints(6)}, {of(5, ints(5)), ints(7)}, {of(5, ints(5)), ints(heavy)}, {of(5, ints(5, 0)), ints(5, 1)}, {of(5, ints(5, 0)), ints(1, 5)}, {of(5, ints(5, 0)), ints(3, 3)}, {of(1, ints(1)), ints(2)}, {of(1, ints(1, 0)), ints(1, 1)}, {of(10, ints(6, 0), ints(0, 4)), ints(11, 0)}, {of(10, ints(6, 0), ints(0, 4)), ints(heavy, heavy)}, {of(heavy, ints(heavy, 0)), ints(heavy, 1)}, {of(heavy, ints(heavy, 0)), ints(1, heavy)}, {of(heavy, repeated(most, heavy/most)), repeated(most, heavy)}, {of(heavy-1, ints(heavy-1)), ints(heavy)}, {of(heavy, repeated(most, heavy/most)), changed(repeated(most, heavy/most), 7, heavy/most+1)},
	} {
		if after, out, e := pipe.Push(x.p, x.in); e != api.ErrFull || !same(after, api.Pipe{}) || len(out) > 0 {
			t.Errorf("Push(%v, %v) = %v, %v, %d", x.p, x.in, after, out, e)
		}
		testPush(t, x.p, x.in)
	}
}

// As long as the first plug of MaxPlugs plugs does not leave whole, nothing can be added.
func TestPushIntoManyPlugs(t *testing.T) {
	full, nearly := filled(alike(many, 2, 1)...), filled(alike(many-1, 2, 1)...)
	for _, x := range []struct {
		p     api.Pipe
		in    []int
		plugs int
		e     api.Errno
	}{
		{full, ints(0, 0), many, api.OK}, {full, ints(1, 0), 0, api.ErrFull}, {full, ints(1, 1), 0, api.ErrFull}, {full, ints(2, 1), many, api.OK}, {full, ints(0, 3), many, api.OK}, {full, ints(0, 4), many, api.OK}, {full, ints(5, 0), many, api.OK}, {full, ints(6, 0), many - 1, api.OK}, {full, ints(many, 0), many - many/3 + 1, api.OK}, {full, ints(3*many-1, 0), 2, api.OK}, {full, ints(3*many-3, 0), 2, api.OK}, {full, ints(3*many, 0), 1, api.OK}, {full, ints(3*many, 1), 0, api.ErrFull},
		{nearly, ints(0, 0), many - 1, api.OK}, {nearly, ints(0, 1), many, api.OK}, {nearly, ints(2, 0), many, api.OK}, {nearly, ints(3, 0), many - 1, api.OK},
	} {
		after, _, e := pipe.Push(x.p, x.in)
		if e != x.e || len(after.Plugs) != x.plugs {
			t.Errorf("Push of %v into %d plugs: %d plugs, %d", x.in, len(x.p.Plugs), len(after.Plugs), e)
		}
		testPush(t, x.p, x.in)
	}
}

// loads are lists of masses for a pipe, of each amount one of a single kind and one of several.
func loads(p api.Pipe, next func(n int) int) [][]int {
	n := len(p.Plugs[0])
	l := [][]int{repeated(n, heavy), only(n, n-1, min(p.Hold+1, heavy)), cut(n, p.Hold+1, next)}
	for _, mass := range amounts(p, next) {
		l = append(l, only(n, next(n), mass), cut(n, mass, next))
	}
	return without(l, func(m []int) bool { return slices.Max(m) > heavy })
}

func TestPushes(t *testing.T) {
	next := random()
	for _, n := range lengths() {
		counts := map[api.Errno]int{}
		for _, p := range pipes(n) {
			for _, in := range loads(p, next) {
				counts[testPush(t, p, in)]++
			}
		}
		if counts[api.OK] == 0 || counts[api.ErrFull] == 0 || len(counts) != 2 {
			t.Errorf("the errors are %v", counts)
		}
	}
}

// All pushes into all pipes with few plugs and small masses, some of them of more than there is.
func TestPushesIntoSmallPipes(t *testing.T) {
	for _, x := range []struct {
		pipes    []api.Pipe
		greatest int
	}{
		{smallPipes(1, 5, 3), 16}, {smallPipes(2, 1, 12), 8}, {smallPipes(2, 2, 3), 7}, {smallPipes(2, 3, 2), 4}, {smallPipes(3, 1, 4), 3}, {smallPipes(3, 2, 2), 2}, {smallPipes(4, 1, 3), 2}, {smallPipes(5, 1, 2), 2},
	} {
		for _, in := range small(len(x.pipes[0].Plugs[0]), x.greatest) {
			for _, p := range x.pipes {
				testPush(t, p, in)
			}
		}
	}
}

func TestPushesOneAfterTheOther(t *testing.T) {
	for _, n := range lengths() {
		for _, hold := range ints(1, 20, 1000, heavy) {
			next := random()
			p, _ := pipe.New(cut(n, hold, next))
			counts, last := map[api.Errno]int{}, api.OK
			for range 400 {
				// Many small pushes make many plugs, until one is refused; then a great one takes some of them.
				in := cut(n, next(min(hold, hold/300+2)), next)
				if last != api.OK {
					in = cut(n, next(hold+1), next)
				}
				last = testPush(t, p, in)
				counts[last]++
				if last == api.OK {
					p, _, _ = pipe.Push(p, in)
				}
			}
			if counts[api.OK] < 300 || hold == heavy && counts[api.ErrFull] == 0 {
				t.Errorf("the errors of pushes into a pipe with %d grams are %v", hold, counts)
			}
		}
	}
}

// Gram by gram, until nothing of the former contents is left: the plugs must not be too many for it.
func TestPushesOfOneGram(t *testing.T) {
	next := random()
	for _, n := range ints(1, 2, most) {
		for _, hold := range ints(1, 2, 3, 8, 20, 100, many-1, many) {
			for _, count := range ints(1, 5, hold) {
				if count > hold || count == 5 && hold > 100 {
					continue
				}
				p := of(hold)
				for _, mass := range pieces(count, hold, next) {
					p.Plugs = append(p.Plugs, cut(n, mass, next))
				}
				gram := only(n, next(n), 1)
				for range hold {
					if e := testPush(t, p, gram); e != api.OK {
						t.Fatalf("Push(%v, %v) = %d", p, gram, e)
					}
					p, _, _ = pipe.Push(p, gram)
				}
				if !equal(p.Plugs, alike(hold, gram...)) {
					t.Fatalf("%d grams leave %v", hold, p)
				}
			}
		}
	}
}

func TestPushesOfOneGramIntoALongPipe(t *testing.T) {
	p, _ := pipe.New(ints(0, many+1))
	for range many - 1 {
		var e api.Errno
		if p, _, e = pipe.Push(p, ints(1, 0)); e != api.OK {
			t.Fatalf("Push(%v) = %d", p, e)
		}
	}
	if !equal(p.Plugs, append([][]int{{0, 2}}, alike(many-1, 1, 0)...)) {
		t.Fatalf("the plugs are %v", p.Plugs)
	}
	if e := testPush(t, p, ints(1, 0)); e != api.ErrFull {
		t.Errorf("one plug too many: %d", e)
	}
	if e := testPush(t, p, ints(1, 1)); e != api.OK {
		t.Errorf("as much as the first plug: %d", e)
	}
}

// P19.5

func TestPushLosesNothing(t *testing.T) {
	next := random()
	for _, n := range lengths() {
		for _, p := range pipes(n) {
			for _, in := range loads(p, next) {
				after, out, e := pipe.Push(p, in)
				if e != api.OK {
					continue
				}
				before, _ := pipe.Content(p)
				content, e := pipe.Content(after)
				if e != api.OK || after.Hold != p.Hold || sum(out) != sum(in) || !slices.Equal(sums(content, out), sums(before, in)) {
					t.Fatalf("Push(%v, %v) = %v, %v", p, in, after, out)
				}
			}
		}
	}
}

// P19.6

// second returns what leaves in the second of two pushes.
func second(p api.Pipe, a []int, b []int) ([]int, api.Errno) {
	p, _, e := pipe.Push(p, a)
	if e != api.OK {
		return nil, e
	}
	_, out, e := pipe.Push(p, b)
	return out, e
}

func TestSecondOfTwoPushes(t *testing.T) {
	next := random()
	for _, n := range ints(1, 2, 3, most) {
		accepted := 0
		for _, p := range pipes(n) {
			for _, s := range amounts(p, next) {
				for _, rest := range ints(1, (p.Hold-s)/2, p.Hold-s) {
					b := cut(n, min(rest, p.Hold-s), next)
					want, e := second(p, only(n, 0, s), b)
					if e == api.OK && s > 0 && rest > 0 {
						accepted++
					}
					for _, a := range [][]int{only(n, n-1, s), cut(n, s, next)} {
						if out, f := second(p, a, b); f != e || !slices.Equal(out, want) {
							t.Fatalf("%v, %v and %v are pushed into %v: %v, %d, not %v, %d", only(n, 0, s), a, b, p, out, f, want, e)
						}
					}
				}
			}
		}
		if accepted < 100 {
			t.Errorf("%d pairs of pushes", accepted)
		}
	}
}

// P19.7

// series divides a mass into pushes with a number of kinds.
func series(n int, count int, mass int, next func(n int) int) [][]int {
	var l [][]int
	for _, s := range pieces(count, mass, next) {
		l = append(l, cut(n, s, next))
	}
	return l
}

// Whatever was in a pipe, after as much as it holds there is only what was pushed.
func TestNothingIsLeftOfTheFormerContents(t *testing.T) {
	next := random()
	for _, n := range lengths() {
		for _, p := range pipes(n) {
			for _, count := range ints(1, 2, 3, 20) {
				if count > p.Hold || count+len(p.Plugs) > many {
					continue
				}
				q, in := p, series(n, count, p.Hold, next)
				for i, masses := range in {
					var e api.Errno
					if q, _, e = pipe.Push(q, masses); e != api.OK {
						t.Fatalf("push %d of %v into %v: %d", i, in, p, e)
					}
				}
				if !same(q, of(p.Hold, in...)) {
					t.Fatalf("%v after %v: %v", p, in, q)
				}
			}
		}
	}
}

// Two pipes with different contents are the same after as much was pushed as they hold, and stay the same.
func TestTheSamePushesMakeTheSamePipe(t *testing.T) {
	next := random()
	for _, n := range lengths() {
		for _, hold := range ints(50, 1000003, heavy) {
			a, b := of(hold, series(n, 40, hold, next)...), of(hold, only(n, n-1, hold))
			for pushed := 0; pushed < 3*hold; {
				in, want := cut(n, hold/7+next(hold/3), next), pushed >= hold
				afterA, outA, e := pipe.Push(a, in)
				afterB, outB, f := pipe.Push(b, in)
				if e != api.OK || f != api.OK || want && !slices.Equal(outA, outB) {
					t.Fatalf("after %d grams %v is pushed into %v and %v: %v, %d and %v, %d", pushed, in, a, b, outA, e, outB, f)
				}
				a, b = afterA, afterB
				pushed += sum(in)
				if pushed >= hold && !same(a, b) {
					t.Fatalf("after %d grams the pipes are %v and %v", pushed, a, b)
				}
			}
		}
	}
}
