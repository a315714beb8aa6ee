package wet_test

import (
	"math/big"
	"slices"
	"testing"

	"papermill/api"
	"papermill/wet"
)

// tried is an argument, with the error that it has whatever the arguments behind it are.
type tried[T any] struct {
	x T
	e api.Errno
}

// first returns the first error, in the order in which the chapter lists them.
func first(l ...api.Errno) api.Errno {
	for _, e := range l {
		if e != api.OK {
			return e
		}
	}
	return api.OK
}

// all are values that have the same error.
func all[T any](e api.Errno, l ...T) []tried[T] {
	var tries []tried[T]
	for _, x := range l {
		tries = append(tries, tried[T]{x, e})
	}
	return tries
}

// outside are numbers below and above those from low to high, by 1 and by far.
func outside(low int, high int) []int {
	return ints(low-1, low-2, low-mille, -heavy, -1<<50, -1<<50-1, -1<<62, least+1, least, high+1, high+2, 2*high, heavy+1, 1<<50, 1<<50+1, 1<<53, 1<<62, great-1, great)
}

// badEnds are wet ends that are refused.
func badEnds() []tried[api.Wet] {
	var l []tried[api.Wet]
	for _, fresh := range outside(0, heavy) {
		l = append(l, all(api.ErrRange, end(fresh, 600, 500), end(fresh, 1, 0), end(fresh, 1, 999), end(fresh, 1000, 0), end(fresh, 1000, 999), end(fresh, 0, 500), end(fresh, 1001, 500), end(fresh, 600, -1), end(fresh, 600, 1000), end(fresh, 0, 1000), end(fresh, least, great))...)
	}
	badRetain, badRecycle := outside(1, mille), outside(0, mille-1)
	for _, fresh := range ints(0, 1, heavy) {
		for _, retain := range badRetain {
			l = append(l, all(api.ErrRate, end(fresh, retain, 0), end(fresh, retain, 500), end(fresh, retain, 999))...)
			for _, recycle := range badRecycle {
				l = append(l, all(api.ErrRate, end(fresh, retain, recycle))...)
			}
		}
		for _, recycle := range badRecycle {
			l = append(l, all(api.ErrRate, end(fresh, 1, recycle), end(fresh, 600, recycle), end(fresh, 1000, recycle))...)
		}
	}
	return l
}

// someEnds are some of the wet ends that are refused, and all kinds of those that are not.
func someEnds() []tried[api.Wet] {
	l := all(api.ErrRange, end(-1, 600, 500), end(heavy+1, 600, 500), end(least, 0, 0), end(great, 1001, 1000), end(-1, 600, 1000), end(heavy+1, 0, 500))
	l = append(l, all(api.ErrRate, api.Wet{}, end(900, 0, 500), end(900, 1001, 500), end(900, 600, -1), end(900, 600, 1000), end(0, 0, -1), end(heavy, least, great))...)
	return append(l, goodEnds()...)
}

func goodEnds() []tried[api.Wet] { return all(api.OK, edges()...) }

// malformed are numbers that are not valid, as they are and with a minus sign.
func malformed() []api.Rat {
	tooMany := append(make(api.Nat, api.MaxLimbs), 1)
	ends := append(slices.Repeat(api.Nat{top}, api.MaxLimbs-1), 0)
	l := rats(api.Rat{}, raw(1, 0), raw(heavy, 0), raw(2, 2), raw(2, 4), raw(3, 3), raw(0, 2), raw(0, top), raw(top, top), raw(500, 1000))
	for _, n := range []api.Nat{{0}, {1, 0}, {5, 0, 0}, {0, 0, 0}, {1, 1, 1, 1, 1, 1, 1, 1, 0}, {-1}, {api.Limb}, {api.Limb + 1, 1}, {least}, {great}, {1, -1}, {-1, 1}, {0, api.Limb}, {2, great, 1}, {1, least, 3}, tooMany, ends, slices.Repeat(api.Nat{1}, api.MaxLimbs+1), slices.Repeat(api.Nat{1}, 1000), slices.Repeat(api.Nat{-1}, limbs+1), slices.Repeat(api.Nat{0}, limbs+1)} {
		l = append(l, api.Rat{P: n, Q: api.Nat{1}}, api.Rat{P: api.Nat{1}, Q: n}, api.Rat{Q: n}, api.Rat{P: n, Q: n}, api.Rat{P: n})
	}
	// Some of them would be short enough, or too long, in lowest terms.
	for _, k := range ints(9*limbs-9, 9*limbs-1, 9*limbs, 200) {
		n := natural(power(k, 0))
		l = append(l, api.Rat{P: n, Q: n}, api.Rat{P: api.Nat{2}, Q: n}, api.Rat{P: n, Q: api.Nat{2}}, api.Rat{P: n, Q: natural(power(2*k, 0))}, api.Rat{Q: n}, api.Rat{P: n})
	}
	for _, a := range l {
		l = append(l, negative(a))
	}
	return append(l, negative(raw(0, 1)), api.Rat{Neg: true, P: api.Nat{}, Q: api.Nat{1}})
}

// tooLong are numbers whose P, whose Q or both have more limbs than they may have.
func tooLong() []api.Rat {
	one := big.NewInt(1)
	var l []*big.Rat
	for _, k := range ints(9*limbs, 9*limbs+1, 9*limbs+8, 9*limbs+9, 9*limbs+10, 100, 200, 9*api.MaxLimbs-1) {
		n := power(k, 0)
		l = append(l, fraction(n, one), fraction(one, n), fraction(n, big.NewInt(3)), fraction(big.NewInt(7), n), fraction(n, power(k, 1)), fraction(power(k, 1), n), fraction(n, power(9*limbs, -1)), fraction(power(9*limbs, -1), n))
	}
	return numbers(append(l, fraction(power(9*api.MaxLimbs, -1), one), fraction(one, power(9*api.MaxLimbs, -1)), fraction(power(9*api.MaxLimbs, -1), power(9*api.MaxLimbs, -2)))...)
}

// belowZero are valid numbers that are negative, long ones and such as are too long among them.
func belowZero() []api.Rat {
	l := rats(of(-1, 1), of(-1, 2), of(-7, 3), of(-100, 1), of(-heavy, 1), of(-heavy-1, 1), of(-1, top), of(-1<<50, 1))
	for _, a := range append(long(), tooLong()...) {
		l = append(l, negative(a))
	}
	return l
}

// badWhites are numbers that white water may not be.
func badWhites() []tried[api.Rat] {
	return slices.Concat(all(api.ErrForm, malformed()...), all(api.ErrRange, belowZero()...), all(api.ErrLimit, tooLong()...))
}

// someWhites are some of the numbers that white water may not be, and all kinds of those that it may be.
func someWhites() []tried[api.Rat] {
	unreduced, longest := api.Rat{P: natural(power(80, 0)), Q: natural(power(81, 0))}, number(fraction(power(9*limbs, 0), big.NewInt(1)))
	l := all(api.ErrForm, api.Rat{}, raw(2, 4), raw(1, 0), negative(raw(0, 1)), negative(raw(6, 4)), api.Rat{P: api.Nat{0}, Q: api.Nat{1}}, api.Rat{P: api.Nat{1}, Q: api.Nat{1, 0}}, unreduced, negative(unreduced))
	l = append(l, all(api.ErrRange, of(-1, 2), of(-heavy, 1), negative(long()[8]), negative(longest))...)
	l = append(l, all(api.ErrLimit, longest, number(small(9*limbs)), number(fraction(power(9*limbs, 0), power(9*limbs, 1))))...)
	return append(l, all(api.OK, append(long(), raw(0, 1), api.Rat{P: api.Nat{}, Q: api.Nat{1}}, raw(1, 1), raw(22, 7), of(heavy, 1))...)...)
}

// someCounts are numbers of steps that are refused or not.
func someCounts() []tried[int] {
	return append(all(api.ErrRange, outside(0, longest)...), all(api.OK, counts()...)...)
}

// P20.1: every function returns the error of Check first, whatever comes behind.

func TestCheckRefuses(t *testing.T) {
	for _, w := range badEnds() {
		if e := testCheck(t, w.x); e != w.e {
			t.Fatalf("Check(%v) = %d, not %d", w.x, e, w.e)
		}
	}
}

func TestSteadyRefuses(t *testing.T) {
	for _, w := range append(badEnds(), someEnds()...) {
		if rest, e := wet.Steady(w.x); e != w.e || e != api.OK && !same(rest, api.Rat{}) {
			t.Fatalf("Steady(%v) = %v, %d, not %d", w.x, rest, e, w.e)
		}
		testSteady(t, w.x)
	}
}

// P20.2: the errors for white.

func testStepRefuses(t *testing.T, w tried[api.Wet], white tried[api.Rat]) {
	t.Helper()
	want := first(w.e, white.e)
	paper, sewer, after, e := wet.Step(w.x, white.x)
	if e != want || e != api.OK && (!same(paper, api.Rat{}) || !same(sewer, api.Rat{}) || !same(after, api.Rat{})) {
		t.Fatalf("Step(%v, %v) = %v, %v, %v, %d, not %d", w.x, white.x, paper, sewer, after, e, want)
	}
	testStep(t, w.x, white.x)
}

func TestStepRefuses(t *testing.T) {
	for _, w := range badEnds() {
		for _, white := range someWhites() {
			testStepRefuses(t, w, white)
		}
	}
	for _, w := range someEnds() {
		for _, white := range append(badWhites(), someWhites()...) {
			testStepRefuses(t, w, white)
		}
	}
}

// P20.5 and P20.6: the errors for white, and then those for the number of steps.

func testRunRefuses(t *testing.T, w tried[api.Wet], white tried[api.Rat], n tried[int]) {
	t.Helper()
	want := first(w.e, white.e, n.e)
	if after, e := wet.After(w.x, white.x, n.x); e != want || e != api.OK && !same(after, api.Rat{}) {
		t.Fatalf("After(%v, %v, %d) = %v, %d, not %d", w.x, white.x, n.x, after, e, want)
	}
	if paper, e := wet.Paper(w.x, white.x, n.x); e != want || e != api.OK && !same(paper, api.Rat{}) {
		t.Fatalf("Paper(%v, %v, %d) = %v, %d, not %d", w.x, white.x, n.x, paper, e, want)
	}
	if want != api.OK {
		testRun(t, w.x, white.x, n.x)
	}
}

func TestRunRefuses(t *testing.T) {
	for _, w := range badEnds() {
		for _, white := range rats(raw(0, 1), raw(100, 1), api.Rat{}, raw(2, 4), of(-1, 2), tooLong()[0]) {
			for _, n := range ints(0, 1, longest, -1, longest+1, least, great) {
				testRunRefuses(t, w, tried[api.Rat]{x: white}, tried[int]{x: n})
			}
		}
	}
	for _, w := range someEnds() {
		for _, white := range badWhites() {
			for _, n := range ints(0, 1, longest, -1, longest+1, least, great) {
				testRunRefuses(t, w, white, tried[int]{x: n})
			}
		}
	}
	for _, w := range someEnds() {
		for _, white := range someWhites() {
			for _, n := range someCounts() {
				testRunRefuses(t, w, white, n)
			}
		}
	}
}

// White water of each length of P together with each of Q.
func TestLengthsOfWhite(t *testing.T) {
	powerOf3 := func(k int) *big.Int { return new(big.Int).Exp(big.NewInt(3), big.NewInt(int64(k)), nil) }
	w := end(900, 600, 500)
	tested := map[[2]int]bool{}
	for p := range 11 {
		for q := range 11 {
			// Powers of 10 and of 3 have no common factor, so that nothing is reduced; 19 factors 3 are a little more than a limb.
			white := number(fraction(power(9*p, 0), powerOf3(19*q)))
			tested[[2]int{len(white.P), len(white.Q)}] = true
			want := api.OK
			if len(white.P) > 8 || len(white.Q) > 8 {
				want = api.ErrLimit
			}
			testStepRefuses(t, tried[api.Wet]{x: w}, tried[api.Rat]{white, want})
			testRunRefuses(t, tried[api.Wet]{x: w}, tried[api.Rat]{white, want}, tried[int]{x: 2})
		}
	}
	for _, white := range long() {
		if max(len(white.P), len(white.Q)) != limbs {
			t.Errorf("%v is not as long as it may be", white)
		}
	}
	for _, white := range append(tooLong(), belowZero()[8+len(long()):]...) {
		if fits(white) {
			t.Errorf("%v is not too long", white)
		}
	}
	for _, l := range [][2]int{{8, 8}, {9, 8}, {8, 9}, {9, 9}, {1, 8}, {8, 1}, {1, 9}, {9, 1}} {
		if !tested[l] {
			t.Errorf("no white water has %d and %d limbs", l[0], l[1])
		}
	}
}
