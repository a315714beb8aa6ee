package tank_test

import (
	"math/big"
	"slices"
	"testing"

	"papermill/api"
	"papermill/tank"
)

// tanks are valid tanks with n parts: empty, with one part, full, and with parts that are no integers.
func tanks(n int) []api.Tank {
	var l []api.Tank
	for _, c := range ints(1, 2, 100, heavy-1, heavy) {
		even := repeated(n, of(c, n))
		l = append(l, holding(c, repeated(n, of(0, 1))...), holding(c, even...), holding(c, repeated(n, of(c, n+1))...), holding(c, uneven(n, c)...))
		for i := range n {
			l = append(l, holding(c, only(n, i, of(c, 1))...), holding(c, only(n, i, of(1, 3))...), holding(c, only(n, i, of(3*c-1, 3))...), holding(c, changed(even, i, of(0, 1))...))
		}
	}
	return l
}

// uneven are n parts of which no two are equal and whose sum is a little less than c.
func uneven(n int, c int) []api.Rat {
	var l []api.Rat
	for _, p := range ints(2, 3, 5, 7, 11, 13, 17, 19)[:n] {
		l = append(l, of(c*p-1, p*n))
	}
	return l
}

// longTanks are tanks of which one part has k decimal places, and another one as many or none; they are valid, or too long together.
func longTanks(n int, k int) []api.Tank {
	near := number(fraction(1, new(big.Int).Sub(power(k), big.NewInt(1))))
	var l []api.Tank
	for i := range n {
		other := (i + 1) % n
		for _, c := range ints(9, 2000) {
			l = append(l, holding(c, only(n, i, long(5, k))...), holding(c, changed(only(n, i, long(c/2, min(k, 428))), other, of(1, 1))...), holding(c, changed(only(n, i, long(1, k)), other, near)...))
		}
	}
	return l
}

// places are numbers of decimal places at which something becomes too long, and some between them.
func places() []int {
	return ints(1, 9, 10, 60, 70, 105, 106, 107, 108, 141, 142, 143, 144, 145, 213, 214, 215, 216, 217, 300, 427, 428, 429, 430, 431)
}

func numerous(limit int) []int { return ints(0, 1, 2, limit-1, limit) }

// loads are lists of masses for n kinds and a capacity.
func loads(n int, capacity int) [][]int {
	l := [][]int{repeated(n, capacity/n), repeated(n, capacity/n+1)}
	for _, mass := range append(numerous(capacity), capacity/2, capacity+1, heavy) {
		l = append(l, repeated(n, mass))
		for i := range n {
			l = append(l, changed(make([]int, n), i, mass))
		}
	}
	return l
}

// P17.1

func TestNew(t *testing.T) {
	for _, n := range lengths() {
		for _, c := range ints(1, 2, 3, 100, 1<<31, heavy/2, heavy-1, heavy) {
			a, e := tank.New(n, c)
			if want := holding(c, repeated(n, raw(0, 1))...); e != api.OK || !sameTank(a, want) {
				t.Fatalf("New(%d, %d) = %v, %d", n, c, a, e)
			}
			if e := tank.Check(a); e != api.OK {
				t.Errorf("Check of New(%d, %d) = %d", n, c, e)
			}
		}
	}
}

// P17.2 and P17.3

func testLevel(t *testing.T, a api.Tank) api.Errno {
	t.Helper()
	before := copied(a)
	var want api.Rat
	wanted := outcome(func() { want = modelLevel(a) })
	if e := tank.Check(a); e != wanted {
		t.Fatalf("Check(%v) = %d, not %d", a, e, wanted)
	}
	if level, e := tank.Level(a); e != wanted || !same(level, want) {
		t.Fatalf("Level(%v) = %v, %d, not %v, %d", a, level, e, want, wanted)
	}
	if !sameTank(a, before) {
		t.Fatalf("%v is changed to %v", before, a)
	}
	return wanted
}

func TestLevelExamples(t *testing.T) {
	for _, c := range []struct {
		a     api.Tank
		level api.Rat
		e     api.Errno
	}{
		{holding(100, raw(10, 1), raw(5, 1)), raw(15, 1), api.OK}, {holding(15, raw(10, 1), raw(5, 1)), raw(15, 1), api.OK}, {holding(14, raw(10, 1), raw(5, 1)), api.Rat{}, api.ErrFull},
		{holding(1, raw(1, 2), raw(1, 3)), raw(5, 6), api.OK}, {holding(1, raw(1, 2), raw(1, 2)), raw(1, 1), api.OK}, {holding(1, raw(1, 2), raw(2, 3)), api.Rat{}, api.ErrFull}, {holding(1, raw(0, 1)), raw(0, 1), api.OK}, {holding(1, raw(1, 1)), raw(1, 1), api.OK}, {holding(1, raw(2, 1)), api.Rat{}, api.ErrFull},
		{holding(heavy, of(heavy, 1)), of(heavy, 1), api.OK}, {holding(heavy, of(heavy-1, 1), raw(1, 1)), of(heavy, 1), api.OK}, {holding(heavy, of(heavy, 1), raw(1, 1)), api.Rat{}, api.ErrFull}, {holding(heavy, of(heavy, 1), raw(1, top)), api.Rat{}, api.ErrFull}, {holding(heavy, of(heavy+1, 1)), api.Rat{}, api.ErrFull},
		{holding(9, long(8, 431)), long(8, 431), api.OK}, {holding(8, long(8, 431)), api.Rat{}, api.ErrFull}, {holding(9, long(9, 431)), api.Rat{}, api.ErrFull},
		// Ten times this denominator is too long to be compared, whether the tank is too full or not.
		{holding(10, long(9, 431)), api.Rat{}, api.ErrOverflow}, {holding(10, long(0, 431)), api.Rat{}, api.ErrOverflow}, {holding(heavy, long(0, 431)), api.Rat{}, api.ErrOverflow},
		// The sum is too long, although a tank with each of these parts alone is valid.
		{holding(9, long(1, 216), number(fraction(1, new(big.Int).Add(power(216), big.NewInt(1))))), api.Rat{}, api.ErrOverflow}, {holding(1, long(1, 216), long(1, 216)), api.Rat{}, api.ErrOverflow}, {holding(1, raw(1, 1), long(1, 216), long(1, 216)), api.Rat{}, api.ErrOverflow}, {holding(9, long(1, 216), raw(1, 1)), number(fraction(2, power(216))), api.OK},
	} {
		if level, e := tank.Level(c.a); e != c.e || !same(level, c.level) {
			t.Errorf("Level(%v) = %v, %d, not %v, %d", c.a, level, e, c.level, c.e)
		}
		testLevel(t, c.a)
	}
}

func TestLevels(t *testing.T) {
	for _, n := range lengths() {
		for _, a := range tanks(n) {
			if e := testLevel(t, a); e != api.OK {
				t.Fatalf("Check(%v) = %d", a, e)
			}
			// Too much by a gram or by a fraction of it, and just enough, in each place.
			for i, part := range a.Parts {
				room := new(big.Rat).Sub(whole(a.Cap), quotient(modelLevel(a)))
				for _, more := range []*big.Rat{whole(0), whole(1), big.NewRat(1, 1000), fraction(0, power(200)), big.NewRat(-1, 1000)} {
					sum := new(big.Rat).Add(quotient(part), room)
					sum.Add(sum, more)
					testLevel(t, holding(a.Cap, changed(a.Parts, i, number(sum))...))
				}
			}
		}
	}
}

func TestLevelsOfLongParts(t *testing.T) {
	counts := map[api.Errno]int{}
	for _, n := range lengths() {
		for _, k := range places() {
			for _, a := range longTanks(n, k) {
				counts[testLevel(t, a)]++
			}
		}
	}
	if counts[api.OK] == 0 || counts[api.ErrOverflow] == 0 || len(counts) != 2 {
		t.Errorf("the errors are %v", counts)
	}
}

// P17.4

func testFill(t *testing.T, a api.Tank, m []int) api.Errno {
	t.Helper()
	before, masses := copied(a), slices.Clone(m)
	var want api.Tank
	wanted := outcome(func() { want = modelFill(a, m) })
	if full, e := tank.Fill(a, m); e != wanted || !sameTank(full, want) {
		t.Fatalf("Fill(%v, %v) = %v, %d, not %v, %d", a, m, full, e, want, wanted)
	}
	if !sameTank(a, before) || !slices.Equal(m, masses) {
		t.Fatalf("%v and %v are changed to %v and %v", before, masses, a, m)
	}
	return wanted
}

func TestFillExamples(t *testing.T) {
	nearly := number(new(big.Rat).Sub(whole(1), fraction(0, power(431))))
	consecutive := number(fraction(0, new(big.Int).Add(power(215), big.NewInt(1))))
	for _, c := range []struct {
		a    api.Tank
		m    []int
		full []api.Rat
		e    api.Errno
	}{
		{holding(20, raw(0, 1), raw(0, 1)), ints(9, 3), rats(raw(9, 1), raw(3, 1)), api.OK}, {holding(20, raw(9, 1), raw(3, 1)), ints(0, 8), rats(raw(9, 1), raw(11, 1)), api.OK}, {holding(20, raw(9, 1), raw(3, 1)), ints(9, 0), nil, api.ErrFull}, {holding(20, raw(9, 1), raw(3, 1)), ints(0, 0), rats(raw(9, 1), raw(3, 1)), api.OK},
		{holding(20, raw(1, 3), raw(5, 3)), ints(17, 1), rats(raw(52, 3), raw(8, 3)), api.OK}, {holding(20, raw(1, 3), raw(2, 3)), ints(18, 1), rats(raw(55, 3), raw(5, 3)), api.OK}, {holding(20, raw(1, 3), raw(3, 4)), ints(18, 1), nil, api.ErrFull},
		{holding(1, raw(0, 1)), ints(1), rats(raw(1, 1)), api.OK}, {holding(1, raw(0, 1)), ints(2), nil, api.ErrFull}, {holding(1, raw(1, 1)), ints(0), rats(raw(1, 1)), api.OK}, {holding(1, raw(1, 1)), ints(1), nil, api.ErrFull}, {holding(1, raw(1, top)), ints(1), nil, api.ErrFull}, {holding(heavy, raw(0, 1)), ints(heavy), rats(of(heavy, 1)), api.OK}, {holding(heavy, raw(1, 1)), ints(heavy), nil, api.ErrFull}, {holding(heavy, repeated(most, raw(0, 1))...), repeated(most, heavy/most), repeated(most, of(heavy/most, 1)), api.OK},
		// The sum of this part and 9 just fits; that with 10 does not, in the first place or a later one.
		{holding(9, nearly), ints(8), rats(number(new(big.Rat).Sub(whole(9), fraction(0, power(431))))), api.OK}, {holding(9, nearly), ints(9), nil, api.ErrFull}, {holding(9, nearly), ints(10), nil, api.ErrOverflow}, {holding(9, nearly), ints(heavy), nil, api.ErrOverflow}, {holding(9, raw(0, 1), nearly), ints(0, 10), nil, api.ErrOverflow}, {holding(9, raw(0, 1), nearly), ints(heavy, 9), nil, api.ErrOverflow}, {holding(9, raw(0, 1), nearly, raw(0, 1)), ints(1, 1, 9), nil, api.ErrOverflow}, {holding(9, nearly), ints(0), rats(nearly), api.OK},
		// The result is too long for the sum of its parts before it is too full.
		{holding(99, long(0, 215), consecutive), ints(98, 0), rats(long(98, 215), consecutive), api.OK}, {holding(99, long(0, 215), consecutive), ints(99, 0), nil, api.ErrFull}, {holding(99, long(0, 215), consecutive), ints(100, 0), nil, api.ErrOverflow}, {holding(98, long(0, 215), consecutive), ints(98, 0), nil, api.ErrFull},
	} {
		full, e := tank.Fill(c.a, c.m)
		if want := holding(c.a.Cap, c.full...); e != c.e || e == api.OK && !sameTank(full, want) {
			t.Errorf("Fill(%v, %v) = %v, %d, not %v, %d", c.a, c.m, full, e, want, c.e)
		}
		testFill(t, c.a, c.m)
	}
}

func TestFills(t *testing.T) {
	for _, n := range lengths() {
		for _, a := range tanks(n) {
			for _, m := range loads(n, a.Cap) {
				testFill(t, a, m)
			}
		}
	}
}

func TestFillsOfLongParts(t *testing.T) {
	for _, n := range ints(1, 2, 3) {
		for _, k := range places() {
			for _, a := range longTanks(n, k) {
				for i := range n {
					for _, mass := range ints(0, 1, 4, 1000, heavy) {
						testFill(t, a, changed(make([]int, n), i, mass))
					}
				}
			}
		}
	}
}

// P17.7

func testPart(t *testing.T, a api.Tank, kind int) api.Errno {
	t.Helper()
	before := copied(a)
	var want api.Rat
	wanted := outcome(func() { want = modelPart(a, kind) })
	if part, e := tank.Part(a, kind); e != wanted || !same(part, want) {
		t.Fatalf("Part(%v, %d) = %v, %d, not %v, %d", a, kind, part, e, want, wanted)
	}
	if !sameTank(a, before) {
		t.Fatalf("%v is changed to %v", before, a)
	}
	return wanted
}

func TestPartExamples(t *testing.T) {
	for _, c := range []struct {
		a    api.Tank
		kind int
		part api.Rat
		e    api.Errno
	}{
		{holding(100, raw(10, 1), raw(5, 1)), 0, raw(2, 3), api.OK}, {holding(100, raw(10, 1), raw(5, 1)), 1, raw(1, 3), api.OK}, {holding(100, raw(22, 3), raw(11, 3)), 0, raw(2, 3), api.OK}, {holding(100, raw(22, 3), raw(11, 3)), 1, raw(1, 3), api.OK}, {holding(100, raw(10, 1), raw(5, 1)), 2, api.Rat{}, api.ErrNone}, {holding(100, raw(10, 1), raw(5, 1)), -1, api.Rat{}, api.ErrNone},
		{holding(1, raw(1, 1)), 0, raw(1, 1), api.OK}, {holding(9, raw(1, top)), 0, raw(1, 1), api.OK}, {holding(9, raw(0, 1)), 0, api.Rat{}, api.ErrEmpty}, {holding(9, raw(0, 1)), 1, api.Rat{}, api.ErrNone}, {holding(9, raw(0, 1)), -1, api.Rat{}, api.ErrNone}, {holding(9, raw(0, 1), raw(1, 3)), 0, raw(0, 1), api.OK}, {holding(9, raw(0, 1), raw(1, 3)), 1, raw(1, 1), api.OK},
		// Of a part as long as the level, the quotient is too long; that of a short one is not.
		{holding(9, long(1, 300)), 0, api.Rat{}, api.ErrOverflow}, {holding(9, raw(1, 1), long(1, 300)), 1, api.Rat{}, api.ErrOverflow}, {holding(9, raw(1, 1), long(1, 300)), 0, number(new(big.Rat).Inv(fraction(2, power(300)))), api.OK}, {holding(9, raw(0, 1), long(1, 300)), 0, raw(0, 1), api.OK}, {holding(9, raw(1, 1), long(1, 300)), 2, api.Rat{}, api.ErrNone},
	} {
		if part, e := tank.Part(c.a, c.kind); e != c.e || !same(part, c.part) {
			t.Errorf("Part(%v, %d) = %v, %d, not %v, %d", c.a, c.kind, part, e, c.part, c.e)
		}
	}
}

func TestParts(t *testing.T) {
	for _, n := range lengths() {
		for _, a := range tanks(n) {
			for kind := -2; kind < n+2; kind++ {
				testPart(t, a, kind)
			}
		}
		for _, k := range places() {
			for _, a := range longTanks(n, k) {
				for kind := range min(n, 3) {
					testPart(t, a, kind)
				}
			}
		}
	}
}
