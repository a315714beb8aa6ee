package wet_test

import (
	"slices"
	"testing"

	"papermill/api"
	"papermill/wet"
)

// counts are numbers of steps.
func counts() []int { return ints(0, 1, 2, longest-1, longest) }

// P20.5 and P20.6

func testRun(t *testing.T, w api.Wet, white api.Rat, n int) api.Errno {
	t.Helper()
	before := copied(white)
	var wantAfter, wantPaper api.Rat
	wanted := outcome(func() {
		total := modelRun(w, white, n)
		wantAfter, wantPaper = number(total.white), number(total.paper)
	})
	if after, e := wet.After(w, white, n); e != wanted || !same(after, wantAfter) {
		t.Fatalf("After(%v, %v, %d) = %v, %d, not %v, %d", w, white, n, after, e, wantAfter, wanted)
	}
	if paper, e := wet.Paper(w, white, n); e != wanted || !same(paper, wantPaper) {
		t.Fatalf("Paper(%v, %v, %d) = %v, %d, not %v, %d", w, white, n, paper, e, wantPaper, wanted)
	}
	if !same(white, before) {
		t.Fatalf("%v is changed to %v", before, white)
	}
	return wanted
}

func TestRunExamples(t *testing.T) {
	for _, x := range []struct {
		w            api.Wet
		white        api.Rat
		n            int
		after, paper api.Rat
	}{
		{end(900, 600, 500), raw(100, 1), 0, raw(100, 1), raw(0, 1)}, {end(900, 600, 500), raw(100, 1), 1, raw(200, 1), raw(600, 1)}, {end(900, 600, 500), raw(100, 1), 2, raw(220, 1), raw(1260, 1)}, {end(900, 600, 500), raw(100, 1), 3, raw(224, 1), raw(1932, 1)}, {end(900, 600, 500), raw(100, 1), 4, raw(1124, 5), of(13032, 5)}, {end(900, 600, 500), raw(100, 1), 16, of(225*1220703125-1, 1220703125), number(plus(ratio(42825, 4), ratio(3, 4*1220703125)))},
		{end(100, 750, 800), raw(20, 1), 2, raw(124, 5), raw(183, 1)}, {end(100, 750, 800), raw(20, 1), 3, raw(624, 25), of(1383, 5)}, {end(900, 600, 500), raw(225, 1), 0, raw(225, 1), raw(0, 1)}, {end(900, 600, 500), raw(225, 1), 15, raw(225, 1), raw(10125, 1)}, {end(900, 600, 500), raw(225, 1), 16, raw(225, 1), raw(10800, 1)},
		{end(0, 1000, 0), raw(7, 2), 0, raw(7, 2), raw(0, 1)}, {end(0, 1000, 0), raw(7, 2), 1, raw(0, 1), raw(7, 2)}, {end(0, 1000, 0), raw(7, 2), 16, raw(0, 1), raw(7, 2)}, {end(0, 500, 0), raw(8, 1), 16, raw(0, 1), raw(4, 1)}, {end(0, 500, 500), raw(8, 1), 2, raw(1, 2), raw(5, 1)}, {end(1, 1, 0), raw(1, 1), 2, raw(0, 1), raw(3, 1000)}, {end(1, 1, 999), raw(0, 1), 1, raw(998001, 1000000), raw(1, 1000)}, {end(1, 1, 999), raw(0, 1), 2, of(998001*1998001, 1000000000000), of(1000000+1998001, 1000000000)}, {end(heavy, 1000, 0), raw(0, 1), 16, raw(0, 1), of(16*heavy, 1)}, {end(heavy, 1000, 999), of(heavy, 1), 15, raw(0, 1), of(16*heavy, 1)}, {end(0, 1, 0), raw(0, 1), 16, raw(0, 1), raw(0, 1)},
	} {
		if after, e := wet.After(x.w, x.white, x.n); e != api.OK || !same(after, x.after) {
			t.Errorf("After(%v, %v, %d) = %v, %d, not %v", x.w, x.white, x.n, after, e, x.after)
		}
		if paper, e := wet.Paper(x.w, x.white, x.n); e != api.OK || !same(paper, x.paper) {
			t.Errorf("Paper(%v, %v, %d) = %v, %d, not %v", x.w, x.white, x.n, paper, e, x.paper)
		}
		testRun(t, x.w, x.white, x.n)
	}
}

func TestRuns(t *testing.T) {
	for _, w := range ends() {
		for _, n := range counts() {
			for _, white := range rats(raw(22, 7), number(atRest(w))) {
				if e := testRun(t, w, white, n); e != api.OK {
					t.Fatalf("After(%v, %v, %d) is refused with %d", w, white, n, e)
				}
			}
		}
	}
}

// The longest results have many more limbs than white water that is passed may have.
func TestRunsOfLongNumbers(t *testing.T) {
	most := 0
	for _, white := range long() {
		for _, w := range []api.Wet{end(heavy, 1, 999), end(heavy-1, 1, 999), end(heavy-1, 3, 997), end(heavy-1, 991, 7)} {
			for n := range longest + 1 {
				testRun(t, w, white, n)
			}
			after, _ := wet.After(w, white, longest)
			paper, _ := wet.Paper(w, white, longest)
			most = slices.Max(ints(most, len(after.P), len(after.Q), len(paper.P), len(paper.Q)))
		}
	}
	if most < 2*limbs {
		t.Errorf("the longest result has %d limbs", most)
	}
}

func TestRandomRuns(t *testing.T) {
	next := random()
	for range 1000 {
		w := end(next(heavy+1)>>next(41), next(mille)+1, next(mille))
		white := of(next(1<<50)>>next(50), next(1<<40)>>next(40)+1)
		n := next(longest + 1)
		testStep(t, w, white)
		testSteady(t, w)
		if e := testRun(t, w, white, n); e != api.OK {
			t.Fatalf("After(%v, %v, %d) is refused with %d", w, white, n, e)
		}
	}
}

// P20.5 to P20.7: all numbers of steps, from each white water.
func TestHistories(t *testing.T) {
	passed, refused := 0, 0
	for _, w := range edges() {
		for _, white := range whites(w) {
			l := history(t, w, white)
			more := testOneStepMore(t, w, white, l)
			passed += more
			refused += longest - more
			testSeries(t, w, white, l)
			testSums(t, w, white, l)
		}
	}
	if passed == 0 || refused == 0 {
		t.Errorf("Step accepts %d and refuses %d results of After", passed, refused)
	}
}

// history returns what After and Paper return for 0 to 16 steps, which must be what the model computes step by step.
func history(t *testing.T, w api.Wet, white api.Rat) []flow {
	t.Helper()
	before, total := copied(white), flow{whole(0), whole(0), quotient(white)}
	var l []flow
	for n := range longest + 1 {
		got := runOf(t, w, white, n)
		if !equal(got.white, total.white) || !equal(got.paper, total.paper) {
			t.Fatalf("%d steps of %v from %v return %v, not %v", n, w, white, got, total)
		}
		l = append(l, got)
		total = followed(w, total)
	}
	if !same(white, before) {
		t.Fatalf("%v is changed to %v", before, white)
	}
	return l
}

// runOf returns the paper of n steps and the white water after them.
func runOf(t *testing.T, w api.Wet, white api.Rat, n int) flow {
	t.Helper()
	after, e := wet.After(w, white, n)
	paper, f := wet.Paper(w, white, n)
	if e != api.OK || f != api.OK {
		t.Fatalf("%d steps of %v from %v are refused with %d and %d", n, w, white, e, f)
	}
	return flow{paper: quotient(paper), white: quotient(after)}
}

// testOneStepMore tests that After and Paper of one step more are what Step makes of After, unless this is too long to be passed. It returns for how many numbers of steps it is not.
func testOneStepMore(t *testing.T, w api.Wet, white api.Rat, l []flow) int {
	t.Helper()
	passed := 0
	for n := range longest {
		if e := testStep(t, w, number(l[n].white)); e == api.ErrLimit {
			continue
		}
		s := stepOf(t, w, number(l[n].white))
		if !equal(s.white, l[n+1].white) || !equal(plus(l[n].paper, s.paper), l[n+1].paper) {
			t.Fatalf("after %d steps of %v from %v, Step returns %v", n, w, white, s)
		}
		passed++
	}
	return passed
}

// Steps that follow other steps go on from the white water that these leave.
func TestRunsOneAfterTheOther(t *testing.T) {
	for _, w := range edges() {
		for _, white := range rats(raw(0, 1), raw(22, 7), of(heavy, 3)) {
			l := history(t, w, white)
			for _, m := range ints(0, 1, 2, 5, longest-1, longest) {
				if !fits(number(l[m].white)) {
					continue
				}
				for n := range longest - m + 1 {
					then := runOf(t, w, number(l[m].white), n)
					if !equal(then.white, l[m+n].white) || !equal(plus(l[m].paper, then.paper), l[m+n].paper) {
						t.Fatalf("%d and %d steps of %v from %v are not %d", m, n, w, white, m+n)
					}
				}
			}
		}
	}
}
