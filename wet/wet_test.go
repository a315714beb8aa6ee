package wet_test

import (
	"testing"

	"papermill/api"
	"papermill/wet"
)

// P20.1

func testCheck(t *testing.T, w api.Wet) api.Errno {
	t.Helper()
	wanted := modelCheck(w)
	if e := wet.Check(w); e != wanted {
		t.Fatalf("Check(%v) = %d, not %d", w, e, wanted)
	}
	return wanted
}

func TestCheckExamples(t *testing.T) {
	for _, x := range []struct {
		w api.Wet
		e api.Errno
	}{
		{end(900, 600, 500), api.OK}, {end(0, 1, 0), api.OK}, {end(0, 1, 999), api.OK}, {end(0, 1000, 0), api.OK}, {end(0, 1000, 999), api.OK}, {end(1, 1, 0), api.OK}, {end(heavy, 1, 0), api.OK}, {end(heavy, 1, 999), api.OK}, {end(heavy, 1000, 0), api.OK}, {end(heavy, 1000, 999), api.OK}, {end(heavy-1, 999, 1), api.OK},
		{end(-1, 600, 500), api.ErrRange}, {end(heavy+1, 600, 500), api.ErrRange}, {end(-1, 0, 500), api.ErrRange}, {end(heavy+1, 600, 1000), api.ErrRange}, {end(least, -1, -1), api.ErrRange}, {end(great, 1001, 1000), api.ErrRange}, {end(-1, 0, 1000), api.ErrRange},
		{api.Wet{}, api.ErrRate}, {end(900, 0, 500), api.ErrRate}, {end(900, -1, 500), api.ErrRate}, {end(900, 1001, 500), api.ErrRate}, {end(900, 600, -1), api.ErrRate}, {end(900, 600, 1000), api.ErrRate}, {end(900, 600, 1001), api.ErrRate}, {end(900, 0, -1), api.ErrRate}, {end(900, 1001, 1000), api.ErrRate}, {end(0, 0, 0), api.ErrRate}, {end(heavy, 0, 999), api.ErrRate}, {end(heavy, 1000, 1000), api.ErrRate},
	} {
		if e := wet.Check(x.w); e != x.e {
			t.Errorf("Check(%v) = %d, not %d", x.w, e, x.e)
		}
		testCheck(t, x.w)
	}
}

func TestCheckOfAllRates(t *testing.T) {
	valid := 0
	for _, fresh := range ints(-1, 0, heavy, heavy+1) {
		for retain := -1; retain <= mille+2; retain++ {
			for recycle := -2; recycle <= mille+1; recycle++ {
				if testCheck(t, end(fresh, retain, recycle)) == api.OK {
					valid++
				}
			}
		}
	}
	if valid != 2*mille*mille {
		t.Errorf("%d wet ends are valid", valid)
	}
}

// P20.3

func testStep(t *testing.T, w api.Wet, white api.Rat) api.Errno {
	t.Helper()
	before := copied(white)
	var want []api.Rat
	wanted := outcome(func() {
		s := modelStep(w, white)
		want = numbers(s.paper, s.sewer, s.white)
	})
	if wanted != api.OK {
		want = rats(api.Rat{}, api.Rat{}, api.Rat{})
	}
	paper, sewer, after, e := wet.Step(w, white)
	if e != wanted || !same(paper, want[0]) || !same(sewer, want[1]) || !same(after, want[2]) {
		t.Fatalf("Step(%v, %v) = %v, %v, %v, %d, not %v, %d", w, white, paper, sewer, after, e, want, wanted)
	}
	if !same(white, before) {
		t.Fatalf("%v is changed to %v", before, white)
	}
	return wanted
}

func TestStepExamples(t *testing.T) {
	longest, shortest := long()[1], long()[4]
	for _, x := range []struct {
		w                          api.Wet
		white, paper, sewer, after api.Rat
	}{
		{end(900, 600, 500), raw(100, 1), raw(600, 1), raw(200, 1), raw(200, 1)}, {end(900, 600, 500), raw(225, 1), raw(675, 1), raw(225, 1), raw(225, 1)}, {end(900, 600, 500), raw(0, 1), raw(540, 1), raw(180, 1), raw(180, 1)}, {end(100, 750, 800), raw(20, 1), raw(90, 1), raw(6, 1), raw(24, 1)}, {end(100, 800, 750), raw(20, 1), raw(96, 1), raw(6, 1), raw(18, 1)},
		{end(10, 300, 250), raw(22, 7), raw(138, 35), raw(69, 10), raw(23, 10)}, {end(0, 250, 600), raw(1, 3), raw(1, 12), raw(1, 10), raw(3, 20)}, {end(0, 500, 500), raw(8, 1), raw(4, 1), raw(2, 1), raw(2, 1)}, {end(3, 500, 0), raw(1, 1), raw(2, 1), raw(2, 1), raw(0, 1)}, {end(3, 1000, 500), raw(1, 2), raw(7, 2), raw(0, 1), raw(0, 1)},
		{end(0, 1, 0), raw(0, 1), raw(0, 1), raw(0, 1), raw(0, 1)}, {end(0, 1, 999), raw(0, 1), raw(0, 1), raw(0, 1), raw(0, 1)}, {end(0, 1000, 999), raw(0, 1), raw(0, 1), raw(0, 1), raw(0, 1)}, {end(1, 1, 0), raw(0, 1), raw(1, 1000), raw(999, 1000), raw(0, 1)}, {end(1, 1, 999), raw(0, 1), raw(1, 1000), raw(999, 1000000), raw(998001, 1000000)}, {end(0, 1, 999), raw(1, 1), raw(1, 1000), raw(999, 1000000), raw(998001, 1000000)}, {end(1, 1000, 0), raw(0, 1), raw(1, 1), raw(0, 1), raw(0, 1)}, {end(1, 1000, 999), raw(0, 1), raw(1, 1), raw(0, 1), raw(0, 1)},
		{end(heavy, 1000, 0), raw(0, 1), of(heavy, 1), raw(0, 1), raw(0, 1)}, {end(heavy, 1000, 999), of(heavy, 1), of(2*heavy, 1), raw(0, 1), raw(0, 1)}, {end(heavy, 1, 0), raw(0, 1), of(heavy/8, 125), of(heavy/8*999, 125), raw(0, 1)}, {end(heavy, 1, 999), raw(0, 1), of(heavy/8, 125), of(heavy/64*999, 15625), of(heavy/64*998001, 15625)}, {end(heavy, 500, 500), of(heavy, 1), of(heavy, 1), of(heavy/2, 1), of(heavy/2, 1)},
		{end(0, 1000, 0), longest, longest, raw(0, 1), raw(0, 1)}, {end(0, 1000, 999), shortest, shortest, raw(0, 1), raw(0, 1)},
	} {
		paper, sewer, after, e := wet.Step(x.w, x.white)
		if e != api.OK || !same(paper, x.paper) || !same(sewer, x.sewer) || !same(after, x.after) {
			t.Errorf("Step(%v, %v) = %v, %v, %v, %d, not %v, %v, %v", x.w, x.white, paper, sewer, after, e, x.paper, x.sewer, x.after)
		}
		testStep(t, x.w, x.white)
	}
}

func TestSteps(t *testing.T) {
	for _, w := range ends() {
		for _, white := range whites(w) {
			if e := testStep(t, w, white); e != api.OK {
				t.Fatalf("Step(%v, %v) is refused with %d", w, white, e)
			}
		}
	}
}

func TestStepsOfAllRates(t *testing.T) {
	for rate := range mille {
		for _, fresh := range ints(1, 900, heavy) {
			for _, white := range rats(raw(0, 1), raw(22, 7)) {
				for _, other := range ints(1, 600, 999) {
					testStep(t, end(fresh, rate+1, other), white)
					testStep(t, end(fresh, other, rate), white)
				}
			}
		}
	}
}

// P20.4

func testSteady(t *testing.T, w api.Wet) api.Errno {
	t.Helper()
	var want api.Rat
	wanted := outcome(func() { want = number(modelSteady(w)) })
	rest, e := wet.Steady(w)
	if e != wanted || !same(rest, want) {
		t.Fatalf("Steady(%v) = %v, %d, not %v, %d", w, rest, e, want, wanted)
	}
	if e != api.OK {
		return e
	}
	if _, _, after, e := wet.Step(w, rest); e != api.OK || !same(after, rest) {
		t.Fatalf("Step(%v, %v) leaves %v, %d", w, rest, after, e)
	}
	return api.OK
}

func TestSteadyExamples(t *testing.T) {
	for _, x := range []struct {
		w    api.Wet
		rest api.Rat
	}{
		{end(900, 600, 500), raw(225, 1)}, {end(100, 750, 800), raw(25, 1)}, {end(7, 500, 500), raw(7, 3)}, {end(1, 2, 3), raw(1497, 498503)}, {end(1, 1, 1), raw(999, 999001)}, {end(1, 999, 1), raw(1, 999999)}, {end(1, 999, 999), raw(999, 999001)}, {end(3, 999, 1), raw(1, 333333)},
		{end(0, 1, 0), raw(0, 1)}, {end(0, 1, 999), raw(0, 1)}, {end(0, 1000, 0), raw(0, 1)}, {end(0, 1000, 999), raw(0, 1)}, {end(0, 600, 500), raw(0, 1)}, {end(1, 1, 0), raw(0, 1)}, {end(1, 1, 999), raw(998001, 1999)}, {end(1, 1000, 0), raw(0, 1)}, {end(1, 1000, 999), raw(0, 1)}, {end(heavy, 1, 0), raw(0, 1)}, {end(heavy, 1, 999), of(heavy*998001, 1999)}, {end(heavy, 1000, 0), raw(0, 1)}, {end(heavy, 1000, 999), raw(0, 1)}, {end(heavy, 999, 1), of(heavy, 999999)}, {end(heavy, 500, 0), raw(0, 1)},
	} {
		if rest, e := wet.Steady(x.w); e != api.OK || !same(rest, x.rest) {
			t.Errorf("Steady(%v) = %v, %d, not %v", x.w, rest, e, x.rest)
		}
		testSteady(t, x.w)
	}
}

func TestSteadies(t *testing.T) {
	for _, w := range ends() {
		if e := testSteady(t, w); e != api.OK {
			t.Fatalf("Steady(%v) is refused with %d", w, e)
		}
	}
	for rate := range mille {
		for _, fresh := range ints(1, 900, heavy) {
			for _, other := range ints(1, 600, 999) {
				testSteady(t, end(fresh, rate+1, other))
				testSteady(t, end(fresh, other, rate))
			}
		}
	}
}

// There is exactly one white water that a step leaves as it is.
func TestOnlyOneIsSteady(t *testing.T) {
	for _, w := range ends() {
		rest, e := wet.Steady(w)
		if e != api.OK {
			t.Fatalf("Steady(%v) is refused with %d", w, e)
		}
		for _, white := range whites(w) {
			_, _, after, e := wet.Step(w, white)
			if e != api.OK || same(after, white) != same(white, rest) {
				t.Fatalf("Step(%v, %v) leaves %v, %d, and Steady is %v", w, white, after, e, rest)
			}
		}
	}
}
