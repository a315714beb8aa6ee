package wet_test

import (
	"slices"
	"testing"

	"papermill/api"
	"papermill/wet"
)

// roomy is a in memory that goes on behind its limbs.
func roomy(a api.Rat) api.Rat {
	return api.Rat{Neg: a.Neg, P: slices.Grow(slices.Clone(a.P), 3), Q: slices.Grow(slices.Clone(a.Q), 3)}
}

// testApart writes to all the memory of numbers: none of it belongs to two of them, or to P and Q of one.
func testApart(t *testing.T, name string, numbers ...api.Rat) {
	t.Helper()
	var l []api.Nat
	for _, a := range numbers {
		l = append(l, a.P[:cap(a.P)], a.Q[:cap(a.Q)])
	}
	for i, n := range l {
		for k := range n {
			n[k] = -i - 1
		}
	}
	for i, n := range l {
		if slices.ContainsFunc(n, func(limb int) bool { return limb != -i-1 }) {
			t.Fatalf("%s: numbers share memory", name)
		}
	}
}

// again returns results that are computed twice; each time the argument has memory of its own, and all of it is written to.
func again(t *testing.T, name string, white api.Rat, f func(white api.Rat) []api.Rat) {
	t.Helper()
	a, b := roomy(white), roomy(white)
	results := f(a)
	var want []api.Rat
	for _, x := range results {
		want = append(want, copied(x))
	}
	testApart(t, name, append(results, a)...)
	later := f(b)
	if !slices.EqualFunc(later, want, same) {
		t.Fatalf("%s returns %v for %v at first, and then %v", name, want, white, later)
	}
	testApart(t, name, slices.Concat(results, later, rats(a, b))...)
}

// P20.3 to P20.6: results are new memory.
func TestMemoryOfResults(t *testing.T) {
	for _, w := range edges() {
		for _, white := range whites(w) {
			again(t, "Step", white, func(white api.Rat) []api.Rat {
				paper, sewer, after, _ := wet.Step(w, white)
				return rats(paper, sewer, after)
			})
			for _, n := range ints(0, 1, 2, longest) {
				again(t, "After", white, func(white api.Rat) []api.Rat {
					after, _ := wet.After(w, white, n)
					return rats(after)
				})
				again(t, "Paper", white, func(white api.Rat) []api.Rat {
					paper, _ := wet.Paper(w, white, n)
					return rats(paper)
				})
			}
		}
		again(t, "Steady", raw(0, 1), func(api.Rat) []api.Rat {
			rest, _ := wet.Steady(w)
			return rats(rest)
		})
	}
}

// P and Q of white water may be the same limbs; those of results are not.
func TestWhiteOfOneMemory(t *testing.T) {
	for _, w := range edges() {
		one := append(make(api.Nat, 0, 4), 1)
		white := api.Rat{P: one, Q: one}
		if e := testStep(t, w, white); e != api.OK {
			t.Fatalf("Step(%v, %v) is refused with %d", w, white, e)
		}
		paper, sewer, after, _ := wet.Step(w, white)
		l := rats(paper, sewer, after)
		for _, n := range ints(0, 1, longest) {
			testRun(t, w, white, n)
			after, _ := wet.After(w, white, n)
			paper, _ := wet.Paper(w, white, n)
			l = append(l, after, paper)
		}
		testApart(t, "Step, After and Paper", l...)
		if !same(white, raw(1, 1)) {
			t.Fatalf("the white water is changed to %v", white)
		}
	}
}

// What lies behind the limbs of white water stays as it is, also if it is refused.
func TestMemoryBehindWhite(t *testing.T) {
	for _, w := range []api.Wet{end(900, 600, 500), end(0, 1000, 0), end(heavy, 1, 999), {}} {
		for _, tries := range [][]api.Rat{whites(end(900, 600, 500)), tooLong()[:4], belowZero()[:4], malformed()} {
			for _, x := range tries {
				testBehind(t, w, roomy(x))
			}
		}
	}
}

func testBehind(t *testing.T, w api.Wet, white api.Rat) {
	t.Helper()
	before := copied(white)
	behind := []api.Nat{white.P[len(white.P):cap(white.P)], white.Q[len(white.Q):cap(white.Q)]}
	for _, n := range behind {
		for k := range n {
			n[k] = -9
		}
	}
	wet.Step(w, white)
	for _, n := range ints(-1, 0, 1, longest, longest+1) {
		wet.After(w, white, n)
		wet.Paper(w, white, n)
	}
	if !same(white, before) {
		t.Fatalf("%v is changed to %v", before, white)
	}
	for _, n := range behind {
		if slices.ContainsFunc(n, func(limb int) bool { return limb != -9 }) {
			t.Fatalf("behind %v is %v", white, n)
		}
	}
}
