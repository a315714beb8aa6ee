package wet_test

import (
	"math/big"
	"testing"

	"papermill/api"
	"papermill/wet"
)

// P20.7

// stepOf returns what Step returns, which is valid.
func stepOf(t *testing.T, w api.Wet, white api.Rat) flow {
	t.Helper()
	paper, sewer, after, e := wet.Step(w, white)
	if e != api.OK {
		t.Fatalf("Step(%v, %v) is refused with %d", w, white, e)
	}
	return flow{quotient(paper), quotient(sewer), quotient(after)}
}

func steadyOf(t *testing.T, w api.Wet) api.Rat {
	t.Helper()
	rest, e := wet.Steady(w)
	if e != api.OK {
		t.Fatalf("Steady(%v) is refused with %d", w, e)
	}
	return rest
}

func TestBalanceOfSteps(t *testing.T) {
	for _, w := range ends() {
		for _, white := range whites(w) {
			s := stepOf(t, w, white)
			if !equal(plus(whole(w.Fresh), quotient(white)), sum(s.paper, s.sewer, s.white)) {
				t.Fatalf("Step(%v, %v) = %v", w, white, s)
			}
			if s.paper.Sign() < 0 || s.sewer.Sign() < 0 || s.white.Sign() < 0 {
				t.Fatalf("Step(%v, %v) = %v", w, white, s)
			}
		}
	}
}

func TestBalanceAtRest(t *testing.T) {
	for _, w := range ends() {
		rest := steadyOf(t, w)
		s := stepOf(t, w, rest)
		if !equal(whole(w.Fresh), plus(s.paper, s.sewer)) || !equal(s.white, quotient(rest)) {
			t.Fatalf("Step(%v, %v) = %v", w, rest, s)
		}
	}
}

func TestDifferenceFromRest(t *testing.T) {
	for _, w := range ends() {
		rest := quotient(steadyOf(t, w))
		f := ratio((mille-w.Retain)*w.Recycle, mille*mille)
		for _, white := range whites(w) {
			s := stepOf(t, w, white)
			if !equal(minus(s.white, rest), times(minus(quotient(white), rest), f)) {
				t.Fatalf("Step(%v, %v) leaves %v, and at rest it is %v", w, white, s.white, rest)
			}
		}
	}
}

// testSeries tests that the white water and the paper of n steps are those of a geometric series of differences from the white water at rest.
func testSeries(t *testing.T, w api.Wet, white api.Rat, l []flow) {
	t.Helper()
	rest, f := quotient(steadyOf(t, w)), factor(w)
	left, heads := minus(quotient(white), rest), new(big.Rat)
	for n, got := range l {
		if !equal(got.white, plus(rest, left)) || !equal(got.paper, times(heads, ratio(w.Retain, mille))) {
			t.Fatalf("%d steps of %v from %v return %v and %v", n, w, white, got.white, got.paper)
		}
		heads = sum(heads, whole(w.Fresh), rest, left)
		left = times(left, f)
	}
}

// testSums tests that what came in during n steps is all there. Also where the white water gets too long to be passed to Step, the sewers have their part of every head box.
func testSums(t *testing.T, w api.Wet, white api.Rat, l []flow) {
	t.Helper()
	toSewer := times(ratio(mille-w.Retain, mille), ratio(mille-w.Recycle, mille))
	sewers := new(big.Rat)
	for n, got := range l {
		if !equal(plus(whole(w.Fresh*n), quotient(white)), sum(got.paper, sewers, got.white)) {
			t.Fatalf("%d steps of %v from %v return %v and %v, and the sewers have %v", n, w, white, got.white, got.paper, sewers)
		}
		sewers = plus(sewers, times(plus(whole(w.Fresh), got.white), toSewer))
	}
}

// What Step returns from the white water before, step by step, is what n steps have together.
func TestBalanceOfStepsTogether(t *testing.T) {
	full := 0
	for _, w := range edges() {
		for _, white := range whites(w) {
			paper, sewers, water, n := new(big.Rat), new(big.Rat), white, 0
			for ; n < longest && fits(water); n++ {
				s := stepOf(t, w, water)
				paper, sewers, water = plus(paper, s.paper), plus(sewers, s.sewer), number(s.white)
			}
			if n == longest {
				full++
			}
			got := runOf(t, w, white, n)
			if !equal(got.white, quotient(water)) || !equal(got.paper, paper) || !equal(plus(whole(w.Fresh*n), quotient(white)), sum(got.paper, sewers, got.white)) {
				t.Fatalf("%d steps of %v from %v return %v and %v, and the sewers have %v", n, w, white, got.white, got.paper, sewers)
			}
		}
	}
	if full == 0 {
		t.Error("nowhere are there as many steps as there may be")
	}
}
