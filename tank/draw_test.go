package tank_test

import (
	"math/big"
	"slices"
	"testing"

	"papermill/api"
	"papermill/tank"
)

// amounts are masses around the level and the capacity of a tank, and others.
func amounts(a api.Tank) []int {
	level := quotient(modelLevel(a))
	floor := int(new(big.Int).Quo(level.Num(), level.Denom()).Int64())
	return append(numerous(a.Cap), floor/2, floor-1, floor, floor+1, floor+2, a.Cap+1, heavy-1, heavy, heavy+1, -1, least, great)
}

// P17.5

func testDraw(t *testing.T, a api.Tank, mass int) api.Errno {
	t.Helper()
	before := copied(a)
	var want api.Tank
	var parts []*big.Rat
	wanted := outcome(func() { want, parts = modelDraw(a, mass) })
	left, taken, e := tank.Draw(a, mass)
	if e != wanted || !sameTank(left, want) || !slices.EqualFunc(taken, numbers(parts), same) {
		t.Fatalf("Draw(%v, %d) = %v, %v, %d, not %v, %v, %d", a, mass, left, taken, e, want, parts, wanted)
	}
	if !sameTank(a, before) {
		t.Fatalf("%v is changed to %v", before, a)
	}
	return wanted
}

func TestDrawExamples(t *testing.T) {
	for _, c := range []struct {
		a     api.Tank
		mass  int
		left  []api.Rat
		taken []api.Rat
	}{
		{holding(100, raw(10, 1), raw(5, 1)), 4, rats(raw(22, 3), raw(11, 3)), rats(raw(8, 3), raw(4, 3))},
		{holding(20, raw(9, 1), raw(3, 1)), 5, rats(raw(21, 4), raw(7, 4)), rats(raw(15, 4), raw(5, 4))},
		{holding(20, raw(9, 1), raw(3, 1)), 12, rats(raw(0, 1), raw(0, 1)), rats(raw(9, 1), raw(3, 1))},
		{holding(20, raw(9, 1), raw(3, 1)), 0, rats(raw(9, 1), raw(3, 1)), rats(raw(0, 1), raw(0, 1))},
		{holding(20, raw(9, 1), raw(3, 1)), 1, rats(raw(33, 4), raw(11, 4)), rats(raw(3, 4), raw(1, 4))},
		{holding(20, raw(9, 1), raw(0, 1)), 2, rats(raw(7, 1), raw(0, 1)), rats(raw(2, 1), raw(0, 1))},
		{holding(20, raw(0, 1), raw(0, 1)), 0, rats(raw(0, 1), raw(0, 1)), rats(raw(0, 1), raw(0, 1))},
		// The level is 23/6, of which 3 grams are 18/23.
		{holding(4, raw(3, 2), raw(7, 3)), 3, rats(raw(15, 46), raw(35, 69)), rats(raw(27, 23), raw(42, 23))},
		{holding(1, raw(1, 1)), 1, rats(raw(0, 1)), rats(raw(1, 1))},
		{holding(1, raw(1, 1)), 0, rats(raw(1, 1)), rats(raw(0, 1))},
		{holding(heavy, of(heavy, 1)), heavy, rats(raw(0, 1)), rats(of(heavy, 1))},
		{holding(heavy, of(heavy, 1)), heavy - 1, rats(raw(1, 1)), rats(of(heavy-1, 1))},
		{holding(heavy, repeated(most, of(heavy/most, 1))...), most, repeated(most, of(heavy/most-1, 1)), repeated(most, raw(1, 1))},
		// Nothing is computed for a mass of 0, so that nothing is too long.
		{holding(9, long(5, 431)), 0, rats(long(5, 431)), rats(raw(0, 1))},
		{holding(1, raw(0, 1), long(0, 431)), 0, rats(raw(0, 1), long(0, 431)), rats(raw(0, 1), raw(0, 1))},
	} {
		left, taken, e := tank.Draw(c.a, c.mass)
		if want := holding(c.a.Cap, c.left...); e != api.OK || !sameTank(left, want) || !slices.EqualFunc(taken, c.taken, same) {
			t.Errorf("Draw(%v, %d) = %v, %v, %d", c.a, c.mass, left, taken, e)
		}
		testDraw(t, c.a, c.mass)
	}
}

// Masses are greater than the level by a gram, by a fraction of it, or by far, also where they are too long to be compared with rat.Cmp.
func TestDrawOfTooMuch(t *testing.T) {
	nearly := func(n int, k int) api.Rat { return number(new(big.Rat).Sub(whole(n), fraction(0, power(k)))) }
	for _, c := range []struct {
		a    api.Tank
		mass int
	}{
		{holding(20, raw(9, 1), raw(3, 1)), 13}, {holding(20, raw(9, 1), raw(3, 1)), 20}, {holding(20, raw(9, 1), raw(3, 1)), 21}, {holding(20, raw(9, 1), raw(3, 1)), heavy}, {holding(20, raw(0, 1)), 1}, {holding(20, raw(0, 1)), heavy}, {holding(1, raw(1, 2), raw(1, 3)), 1}, {holding(heavy, of(heavy-1, 1)), heavy}, {holding(heavy, nearly(heavy, 9)), heavy},
		{holding(9, nearly(5, 30)), 5}, {holding(9, nearly(5, 200)), 5}, {holding(9, nearly(5, 431)), 5}, {holding(9, nearly(5, 431)), 9}, {holding(9, nearly(5, 431)), 10}, {holding(9, nearly(5, 431)), 11}, {holding(9, nearly(5, 431)), 1000}, {holding(9, nearly(5, 431)), heavy}, {holding(1, nearly(1, 431)), 1}, {holding(1, nearly(1, 431)), 10}, {holding(1, raw(0, 1), long(0, 431)), 1}, {holding(1, long(0, 431), raw(0, 1)), heavy}, {holding(2, raw(1, 2), raw(0, 1), nearly(1, 9)), heavy},
	} {
		if left, taken, e := tank.Draw(c.a, c.mass); e != api.ErrStock || !sameTank(left, api.Tank{}) || len(taken) != 0 {
			t.Errorf("Draw(%v, %d) = %v, %v, %d", c.a, c.mass, left, taken, e)
		}
		testDraw(t, c.a, c.mass)
	}
}

// failing says which function returns the error of a part: Mul, Div or Sub.
func failing(part *big.Rat, mass int, level *big.Rat) string {
	if outcome(func() { mul(part, whole(mass)) }) != api.OK {
		return "Mul"
	}
	if outcome(func() { div(mul(part, whole(mass)), level) }) != api.OK {
		return "Div"
	}
	if outcome(func() { sub(part, div(mul(part, whole(mass)), level)) }) != api.OK {
		return "Sub"
	}
	return ""
}

// tooLong are tanks and masses with, for each part, the function that returns an error.
func tooLong() []struct {
	a    api.Tank
	mass int
	by   []string
} {
	one := raw(1, 1)
	return []struct {
		a    api.Tank
		mass int
		by   []string
	}{
		{holding(9, long(5, 431)), 2, []string{"Mul"}}, {holding(9, one, long(5, 431)), 2, []string{"", "Mul"}}, {holding(9, long(5, 431), one), 2, []string{"Mul", ""}}, {holding(9, one, raw(0, 1), long(5, 431), one), 2, []string{"", "", "Mul", ""}},
		{holding(9, long(5, 431)), 1, []string{"Div"}}, {holding(9, long(1, 300)), 1, []string{"Div"}}, {holding(9, one, long(1, 300)), 1, []string{"", "Div"}}, {holding(9, long(1, 300), one), 2, []string{"Div", ""}}, {holding(9, one, one, long(1, 300)), 2, []string{"", "", "Div"}},
		{holding(2000, long(1000, 214), one), 1, []string{"Sub", ""}}, {holding(2000, one, long(1000, 214)), 1, []string{"", "Sub"}}, {holding(2000, one, long(1000, 214), raw(0, 1)), 1, []string{"", "Sub", ""}},
	}
}

func TestDrawOfTooLong(t *testing.T) {
	for _, c := range tooLong() {
		parts, level := contents(c.a)
		for i, part := range parts {
			if by := failing(part, c.mass, level); by != c.by[i] {
				t.Errorf("the error for part %d of %v is of %q", i, c.a, by)
			}
		}
		if left, taken, e := tank.Draw(c.a, c.mass); e != api.ErrOverflow || !sameTank(left, api.Tank{}) || len(taken) != 0 {
			t.Errorf("Draw(%v, %d) = %v, %v, %d", c.a, c.mass, left, taken, e)
		}
		empty := holding(heavy, repeated(len(parts), raw(0, 1))...)
		if left, full, e := tank.Pour(c.a, empty, c.mass); e != api.ErrOverflow || !sameTank(left, api.Tank{}) || !sameTank(full, api.Tank{}) {
			t.Errorf("Pour(%v, %v, %d) = %v, %v, %d", c.a, empty, c.mass, left, full, e)
		}
	}
}

func TestDraws(t *testing.T) {
	for _, n := range lengths() {
		for _, a := range tanks(n) {
			for _, mass := range amounts(a) {
				testDraw(t, a, mass)
			}
		}
	}
}

func TestDrawsOfLongParts(t *testing.T) {
	counts := map[api.Errno]int{}
	for _, n := range ints(1, 2, 3, most) {
		for _, k := range places() {
			for _, a := range longTanks(n, k) {
				for _, mass := range ints(0, 1, 2, 5, 6, 10, 1000, 1001, heavy) {
					counts[testDraw(t, a, mass)]++
				}
			}
		}
	}
	if counts[api.OK] == 0 || counts[api.ErrOverflow] == 0 || counts[api.ErrStock] == 0 || len(counts) != 3 {
		t.Errorf("the errors are %v", counts)
	}
}

// Draws and fills follow each other, until the numbers are too long unless there is only one kind.
func TestDrawsOneAfterTheOther(t *testing.T) {
	for _, n := range lengths() {
		a := holding(1000, uneven(n, 1000)...)
		next := random()
		draws, e := 0, api.OK
		for draws < 200 && e == api.OK {
			mass := next(100)
			if e = testDraw(t, a, mass); e == api.OK {
				left, taken, _ := tank.Draw(a, mass)
				conserved(t, a, mass, left, taken)
				a = refilled(t, left, next)
				draws++
			}
		}
		if n > 1 && e != api.ErrOverflow || draws < 10 {
			t.Errorf("%d draws of %d kinds, and then the error %d", draws, n, e)
		}
	}
}

// refilled adds something of one kind, or more of it if there is not enough for another draw.
func refilled(t *testing.T, a api.Tank, next func(n int) int) api.Tank {
	m := changed(make([]int, len(a.Parts)), next(len(a.Parts)), next(100))
	if less(total(a.Parts), whole(200)) {
		m[0] = 700
	}
	if testFill(t, a, m) != api.OK {
		return a
	}
	full, _ := tank.Fill(a, m)
	return full
}

// P17.6

func testPour(t *testing.T, a api.Tank, b api.Tank, mass int) api.Errno {
	t.Helper()
	beforeA, beforeB := copied(a), copied(b)
	var wantA, wantB api.Tank
	wanted := outcome(func() { wantA, wantB = modelPour(a, b, mass) })
	left, full, e := tank.Pour(a, b, mass)
	if e != wanted || !sameTank(left, wantA) || !sameTank(full, wantB) {
		t.Fatalf("Pour(%v, %v, %d) = %v, %v, %d, not %v, %v, %d", a, b, mass, left, full, e, wantA, wantB, wanted)
	}
	if !sameTank(a, beforeA) || !sameTank(b, beforeB) {
		t.Fatalf("%v and %v are changed to %v and %v", beforeA, beforeB, a, b)
	}
	return wanted
}

func TestPourExamples(t *testing.T) {
	a, b := holding(20, raw(9, 1), raw(3, 1)), holding(20, raw(21, 4), raw(7, 4))
	empty := holding(12, raw(0, 1), raw(0, 1))
	longer := holding(1, raw(0, 1), long(0, 400))
	for _, c := range []struct {
		a    api.Tank
		b    api.Tank
		mass int
		left []api.Rat
		full []api.Rat
		e    api.Errno
	}{
		{a, b, 4, rats(raw(6, 1), raw(2, 1)), rats(raw(33, 4), raw(11, 4)), api.OK}, {a, b, 0, a.Parts, b.Parts, api.OK}, {a, b, 12, rats(raw(0, 1), raw(0, 1)), rats(raw(57, 4), raw(19, 4)), api.OK}, {a, b, 13, nil, nil, api.ErrStock}, {a, holding(18, b.Parts...), 12, nil, nil, api.ErrFull}, {a, holding(18, b.Parts...), 11, rats(raw(3, 4), raw(1, 4)), rats(raw(27, 2), raw(9, 2)), api.OK}, {a, holding(18, b.Parts...), 13, nil, nil, api.ErrStock},
		{a, a, 8, rats(raw(3, 1), raw(1, 1)), rats(raw(15, 1), raw(5, 1)), api.OK}, {a, a, 9, nil, nil, api.ErrFull}, {a, a, 0, a.Parts, a.Parts, api.OK}, {b, a, 7, rats(raw(0, 1), raw(0, 1)), rats(raw(57, 4), raw(19, 4)), api.OK}, {a, empty, 12, rats(raw(0, 1), raw(0, 1)), a.Parts, api.OK}, {empty, a, 0, empty.Parts, a.Parts, api.OK}, {empty, a, 1, nil, nil, api.ErrStock}, {empty, empty, 0, empty.Parts, empty.Parts, api.OK}, {a, holding(12, raw(0, 1)), 1, nil, nil, api.ErrKind}, {a, holding(12, raw(0, 1)), 13, nil, nil, api.ErrKind}, {a, holding(12, raw(0, 1)), -1, nil, nil, api.ErrKind},
		// It is too full by less than a gram.
		{holding(9, raw(1, 2), raw(1, 2)), holding(9, raw(8, 1), raw(1, top)), 1, nil, nil, api.ErrFull}, {holding(9, raw(1, 2), raw(1, 2)), holding(9, raw(7, 1), raw(1, 1)), 1, rats(raw(0, 1), raw(0, 1)), rats(raw(15, 2), raw(3, 2)), api.OK},
		// What is taken is too long to be added, first of the second kind; or of the first one.
		{holding(2000, raw(1, 1), long(1, 40)), longer, 1, nil, nil, api.ErrOverflow}, {holding(2000, long(1, 40), raw(1, 1)), holding(1, long(0, 400), raw(0, 1)), 1, nil, nil, api.ErrOverflow}, {holding(2000, raw(1, 1), long(1, 40)), longer, 0, rats(raw(1, 1), long(1, 40)), longer.Parts, api.OK},
		// All parts of the second result fit, but its sum does not.
		{holding(99, long(9, 215), raw(1, 1)), holding(99, raw(0, 1), raw(0, 1)), 9, nil, nil, api.ErrOverflow},
	} {
		left, full, e := tank.Pour(c.a, c.b, c.mass)
		if e != c.e || e == api.OK && (!sameTank(left, holding(c.a.Cap, c.left...)) || !sameTank(full, holding(c.b.Cap, c.full...))) {
			t.Errorf("Pour(%v, %v, %d) = %v, %v, %d, not %d", c.a, c.b, c.mass, left, full, e, c.e)
		}
		testPour(t, c.a, c.b, c.mass)
	}
}

func TestPours(t *testing.T) {
	for _, n := range ints(1, 2, 5, most) {
		l := tanks(n)
		for i, a := range l {
			for _, b := range []api.Tank{a, l[(i+1)%len(l)], l[(i+7)%len(l)], holding(heavy, only(n, i%n, of(1, 3))...)} {
				level := quotient(modelLevel(b))
				room := b.Cap - int(new(big.Int).Quo(level.Num(), level.Denom()).Int64())
				for _, mass := range append(amounts(a), room-1, room, room+1) {
					testPour(t, a, b, mass)
				}
			}
		}
	}
}

func TestPoursOfLongParts(t *testing.T) {
	counts := map[api.Errno]int{}
	for _, n := range ints(1, 2, 3) {
		for _, k := range places() {
			l := longTanks(n, k)
			for i, a := range l {
				for _, b := range []api.Tank{a, l[(i+1)%len(l)], holding(9, repeated(n, of(1, 3))...)} {
					for _, mass := range ints(0, 1, 5) {
						counts[testPour(t, a, b, mass)]++
					}
				}
			}
		}
	}
	if counts[api.OK] == 0 || counts[api.ErrOverflow] == 0 || counts[api.ErrStock] == 0 || counts[api.ErrFull] == 0 || len(counts) != 4 {
		t.Errorf("the errors are %v", counts)
	}
}

// P17.8

func total(l []api.Rat) *big.Rat {
	sum := new(big.Rat)
	for _, a := range l {
		sum.Add(sum, quotient(a))
	}
	return sum
}

// conserved tests that what is left and what was taken are what was there, and that what was taken has its proportions.
func conserved(t *testing.T, a api.Tank, mass int, left api.Tank, taken []api.Rat) {
	t.Helper()
	if left.Cap != a.Cap || len(left.Parts) != len(a.Parts) || len(taken) != len(a.Parts) || total(taken).Cmp(whole(mass)) != 0 {
		t.Fatalf("Draw(%v, %d) = %v, %v", a, mass, left, taken)
	}
	level := total(a.Parts)
	for i, part := range a.Parts {
		was, out := quotient(part), quotient(taken[i])
		if was.Cmp(total(rats(left.Parts[i], taken[i]))) != 0 || new(big.Rat).Mul(was, whole(mass)).Cmp(new(big.Rat).Mul(out, level)) != 0 {
			t.Fatalf("Draw(%v, %d) = %v, %v", a, mass, left, taken)
		}
	}
}

func TestConservationOfDraws(t *testing.T) {
	for _, n := range lengths() {
		for _, a := range tanks(n) {
			for _, mass := range amounts(a) {
				left, taken, e := tank.Draw(a, mass)
				if e != api.OK {
					continue
				}
				conserved(t, a, mass, left, taken)
				for i := range n {
					before, e := tank.Part(a, i)
					after, f := tank.Part(left, i)
					if f == api.OK && (e != api.OK || !same(before, after)) {
						t.Fatalf("Part(%v, %d) is %v before and %v after a draw", a, i, before, after)
					}
				}
			}
		}
	}
}

func TestConservationOfPours(t *testing.T) {
	for _, n := range lengths() {
		l := tanks(n)
		for i, a := range l {
			b := l[(i+5)%len(l)]
			for _, mass := range amounts(a) {
				left, full, e := tank.Pour(a, b, mass)
				if e != api.OK {
					continue
				}
				for k := range n {
					if total(rats(a.Parts[k], b.Parts[k])).Cmp(total(rats(left.Parts[k], full.Parts[k]))) != 0 {
						t.Fatalf("Pour(%v, %v, %d) = %v, %v", a, b, mass, left, full)
					}
				}
			}
		}
	}
}
