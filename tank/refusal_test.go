package tank_test

import (
	"math/big"
	"slices"
	"testing"

	"papermill/api"
	"papermill/tank"
)

// tried is an argument, with the error that it has whatever the arguments behind it are.
type tried[T any] struct {
	x T
	e api.Errno
}

// first returns the first error, in the order in which the chapter lists them.
func first(l ...api.Errno) api.Errno {
	for _, e := range l {
		if e != api.OK {
			return e
		}
	}
	return api.OK
}

func negative(a api.Rat) api.Rat { return api.Rat{Neg: true, P: a.P, Q: a.Q} }

// malformed are numbers that are not valid, as they are and with a minus sign.
func malformed() []api.Rat {
	tooMany := append(repeated(api.MaxLimbs, 0), 1)
	ends := append(repeated(api.MaxLimbs-1, top), 0)
	l := rats(api.Rat{}, raw(1, 0), raw(heavy, 0), raw(2, 2), raw(2, 4), raw(3, 3), raw(0, 2), raw(0, top), raw(top, top), raw(500, 1000))
	for _, limbs := range []api.Nat{{0}, {1, 0}, {5, 0, 0}, {-1}, {api.Limb}, {api.Limb + 1, 1}, {least}, {great}, {1, -1}, {-1, 1}, {0, api.Limb}, {2, great, 1}, {1, least, 3}, tooMany, ends, repeated(api.MaxLimbs+1, 1), repeated(1000, 1)} {
		l = append(l, api.Rat{P: limbs, Q: api.Nat{1}}, api.Rat{P: api.Nat{1}, Q: limbs}, api.Rat{Q: limbs}, api.Rat{P: limbs, Q: limbs}, api.Rat{P: limbs})
	}
	n := natural(power(200))
	l = append(l, api.Rat{P: n, Q: n}, api.Rat{P: api.Nat{2}, Q: n}, api.Rat{P: n, Q: natural(power(400))})
	for _, a := range l {
		l = append(l, negative(a))
	}
	return append(l, negative(raw(0, 1)))
}

// belowZero are valid numbers that are negative.
func belowZero() []api.Rat {
	return rats(of(-1, 1), of(-1, 2), of(-7, 3), of(-heavy, 1), of(-heavy-1, 1), of(-1, top), of(-1<<50, 1), negative(long(0, 431)), negative(long(9, 431)))
}

// faulty are numbers that no part may be.
func faulty() []tried[api.Rat] {
	var l []tried[api.Rat]
	for _, a := range malformed() {
		l = append(l, tried[api.Rat]{a, api.ErrForm})
	}
	for _, a := range belowZero() {
		l = append(l, tried[api.Rat]{a, api.ErrRange})
	}
	return l
}

// samples are some of the numbers that no part may be.
func samples() []tried[api.Rat] {
	return []tried[api.Rat]{{api.Rat{}, api.ErrForm}, {raw(2, 4), api.ErrForm}, {negative(raw(0, 1)), api.ErrForm}, {negative(raw(6, 4)), api.ErrForm}, {of(-1, 2), api.ErrRange}, {of(-heavy, 1), api.ErrRange}, {negative(long(3, 431)), api.ErrRange}}
}

// refusedParts are lists of parts for which a tank of this capacity is refused.
func refusedParts(n int, c int) []tried[[]api.Rat] {
	var l []tried[[]api.Rat]
	// The other parts are valid, too great for the tank, or so long that their sum is an error.
	lists := [][]api.Rat{repeated(n, of(0, 1)), repeated(n, of(c, n)), repeated(n, of(heavy, 1)), repeated(n, long(1, 400))}
	for i := range n {
		for _, bad := range faulty() {
			l = append(l, tried[[]api.Rat]{changed(lists[1], i, bad.x), bad.e}, tried[[]api.Rat]{repeated(n, bad.x), bad.e})
		}
		for _, bad := range samples() {
			for _, parts := range lists {
				l = append(l, tried[[]api.Rat]{changed(parts, i, bad.x), bad.e})
			}
			for later := i + 1; later < n; later++ {
				for _, worse := range samples() {
					l = append(l, tried[[]api.Rat]{changed(changed(lists[1], i, bad.x), later, worse.x), bad.e})
				}
			}
		}
		l = append(l, tooMuch(n, i, c)...)
	}
	return l
}

// tooMuch are lists of valid parts, of which the sum is too great or too long; part i is a reason for it.
func tooMuch(n int, i int, c int) []tried[[]api.Rat] {
	var l []tried[[]api.Rat]
	for _, more := range []*big.Rat{whole(1), big.NewRat(1, 2), big.NewRat(1, top), fraction(0, power(100)), fraction(0, power(419)), whole(heavy), whole(1 << 50)} {
		l = append(l, tried[[]api.Rat]{only(n, i, number(new(big.Rat).Add(whole(c), more))), api.ErrFull})
		if n > 1 {
			l = append(l, tried[[]api.Rat]{changed(only(n, i, of(c, 1)), (i+1)%n, number(more)), api.ErrFull})
		}
	}
	if n > 1 {
		other := changed(repeated(n, of(0, 1)), (i+1)%n, long(0, 220))
		l = append(l, tried[[]api.Rat]{changed(other, i, long(0, 220)), api.ErrOverflow}, tried[[]api.Rat]{changed(other, i, long(heavy, 212)), api.ErrOverflow})
	}
	if c >= 10 {
		l = append(l, tried[[]api.Rat]{only(n, i, long(0, 431)), api.ErrOverflow}, tried[[]api.Rat]{only(n, i, long(9, 431)), api.ErrOverflow})
	}
	return l
}

// refused are tanks that are refused.
func refused() []tried[api.Tank] {
	var l []tried[api.Tank]
	for _, n := range lengths() {
		for _, c := range ints(1, 9, 10, heavy) {
			for _, parts := range refusedParts(n, c) {
				l = append(l, tried[api.Tank]{holding(c, parts.x...), parts.e})
			}
		}
	}
	return slices.Concat(l, badCounts(), badCapacities())
}

func badCounts() []tried[api.Tank] {
	l := []tried[api.Tank]{{holding(9), api.ErrKind}, {api.Tank{Cap: 9, Parts: rats()}, api.ErrKind}}
	for _, count := range ints(most+1, most+2, 2*most, 256, 257, 4096, 4097, 65536, 65537) {
		for _, a := range rats(of(0, 1), of(9, count), of(-1, 1), api.Rat{}, raw(2, 4), long(1, 400)) {
			l = append(l, tried[api.Tank]{holding(9, repeated(count, a)...), api.ErrKind})
		}
	}
	return l
}

func badCapacities() []tried[api.Tank] {
	l := []tried[api.Tank]{{api.Tank{}, api.ErrRange}}
	for _, c := range outside(1, heavy) {
		for _, n := range ints(0, 1, 2, most, most+1, 4097) {
			for _, a := range rats(of(0, 1), of(1, 1), of(-1, 1), api.Rat{}, long(9, 431)) {
				l = append(l, tried[api.Tank]{holding(c, repeated(n, a)...), api.ErrRange})
			}
		}
	}
	return l
}

// several are some of the refused tanks, with every error.
func several() []tried[api.Tank] {
	l := []tried[api.Tank]{{api.Tank{}, api.ErrRange}, {holding(0, of(0, 1), of(0, 1)), api.ErrRange}, {holding(heavy+1, of(0, 1), of(0, 1)), api.ErrRange}, {holding(least, of(-1, 1)), api.ErrRange}, {holding(5), api.ErrKind}, {holding(5, repeated(most+1, of(0, 1))...), api.ErrKind}}
	for _, bad := range samples() {
		l = append(l, tried[api.Tank]{holding(5, of(1, 1), bad.x), bad.e}, tried[api.Tank]{holding(5, bad.x, of(1, 1)), bad.e}, tried[api.Tank]{holding(5, bad.x), bad.e})
	}
	return append(l, tried[api.Tank]{holding(5, of(5, 1), of(1, top)), api.ErrFull}, tried[api.Tank]{holding(5, long(1, 220), long(1, 220)), api.ErrOverflow}, tried[api.Tank]{holding(10, long(0, 431), of(0, 1)), api.ErrOverflow}, tried[api.Tank]{holding(5, of(6, 1)), api.ErrFull})
}

// accepted are tanks with two parts: of the second one all results are too long.
func accepted() []tried[api.Tank] {
	return []tried[api.Tank]{{holding(100, of(10, 1), of(5, 1)), api.OK}, {holding(9, of(1, 1), long(1, 400)), api.OK}, {holding(9, of(0, 1), of(0, 1)), api.OK}}
}

// P17.1

func TestNewRefuses(t *testing.T) {
	for _, n := range append(outside(1, most), 0, 1, 2, most-1, most) {
		for _, c := range append(outside(1, heavy), 0, 1, heavy) {
			want := api.OK
			if n < 1 || n > most {
				want = api.ErrKind
			} else if c < 1 || c > heavy {
				want = api.ErrRange
			}
			if a, e := tank.New(n, c); e != want || e != api.OK && !sameTank(a, api.Tank{}) {
				t.Errorf("New(%d, %d) = %v, %d, not %d", n, c, a, e, want)
			}
		}
	}
}

// P17.2: every function with a tank returns its error, whatever comes behind.

func TestCheckRefuses(t *testing.T) {
	for _, a := range refused() {
		if e := testLevel(t, a.x); e != a.e {
			t.Fatalf("Check(%v) = %d, not %d", a.x, e, a.e)
		}
	}
}

func TestFillRefuses(t *testing.T) {
	masses := []tried[[]int]{{ints(0, 0), api.OK}, {ints(1, 2), api.OK}, {ints(100, heavy), api.OK}}
	for _, l := range [][]int{nil, ints(), ints(1), ints(-1), ints(1, 1, 1), ints(0, heavy+1, 0), repeated(most, 1), repeated(most+1, -1)} {
		masses = append(masses, tried[[]int]{l, api.ErrKind})
	}
	for _, mass := range outside(0, heavy) {
		masses = append(masses, tried[[]int]{ints(mass, 0), api.ErrRange}, tried[[]int]{ints(0, mass), api.ErrRange}, tried[[]int]{ints(mass, heavy), api.ErrRange}, tried[[]int]{ints(heavy, mass), api.ErrRange}, tried[[]int]{ints(mass, mass), api.ErrRange})
	}
	for _, a := range append(several(), accepted()...) {
		for _, m := range masses {
			want := first(a.e, m.e)
			if full, e := tank.Fill(a.x, m.x); want != api.OK && (e != want || !sameTank(full, api.Tank{})) {
				t.Fatalf("Fill(%v, %v) = %v, %d, not %d", a.x, m.x, full, e, want)
			}
			testFill(t, a.x, m.x)
		}
	}
}

func TestDrawRefuses(t *testing.T) {
	masses := []tried[int]{{0, api.OK}, {1, api.OK}, {heavy, api.OK}}
	for _, mass := range outside(0, heavy) {
		masses = append(masses, tried[int]{mass, api.ErrRange})
	}
	for _, a := range append(several(), accepted()...) {
		for _, m := range masses {
			want := first(a.e, m.e)
			left, taken, e := tank.Draw(a.x, m.x)
			if want != api.OK && (e != want || !sameTank(left, api.Tank{}) || len(taken) > 0) {
				t.Fatalf("Draw(%v, %d) = %v, %v, %d, not %d", a.x, m.x, left, taken, e, want)
			}
			testDraw(t, a.x, m.x)
		}
	}
}

func TestPourRefuses(t *testing.T) {
	others := append(accepted(), tried[api.Tank]{holding(9, of(0, 1)), api.ErrKind}, tried[api.Tank]{holding(9, repeated(most, long(0, 50))...), api.ErrKind})
	for _, a := range append(several(), accepted()...) {
		for _, b := range append(several(), others...) {
			for _, mass := range append(outside(0, heavy), 0, 1, 2, 16, heavy) {
				want := first(a.e, b.e)
				if want == api.OK && (mass < 0 || mass > heavy) {
					want = api.ErrRange
				}
				left, full, e := tank.Pour(a.x, b.x, mass)
				if want != api.OK && (e != want || !sameTank(left, api.Tank{}) || !sameTank(full, api.Tank{})) {
					t.Fatalf("Pour(%v, %v, %d) = %v, %v, %d, not %d", a.x, b.x, mass, left, full, e, want)
				}
				testPour(t, a.x, b.x, mass)
			}
		}
	}
}

func TestPartRefuses(t *testing.T) {
	kinds := []tried[int]{{0, api.OK}, {1, api.OK}}
	for _, kind := range outside(0, 1) {
		kinds = append(kinds, tried[int]{kind, api.ErrNone})
	}
	for _, a := range append(several(), accepted()...) {
		for _, kind := range kinds {
			want := first(a.e, kind.e)
			if part, e := tank.Part(a.x, kind.x); want != api.OK && (e != want || !same(part, api.Rat{})) {
				t.Fatalf("Part(%v, %d) = %v, %d, not %d", a.x, kind.x, part, e, want)
			}
			testPart(t, a.x, kind.x)
		}
	}
}

// roomy is a tank with all its parts in memory that goes on behind them.
func roomy(c int, l ...api.Rat) api.Tank {
	parts := slices.Grow([]api.Rat(nil), len(l)+2)
	for _, a := range l {
		parts = append(parts, api.Rat{Neg: a.Neg, P: slices.Grow(slices.Clone(a.P), 3), Q: slices.Grow(slices.Clone(a.Q), 3)})
	}
	return holding(c, parts...)
}

// memory returns all the limbs of parts, and those behind them.
func memory(lists ...[]api.Rat) []api.Nat {
	var l []api.Nat
	for _, parts := range lists {
		for _, a := range parts {
			l = append(l, a.P[:cap(a.P)], a.Q[:cap(a.Q)])
		}
	}
	return l
}

// testApart writes to all the memory of lists of parts and of masses: none of it belongs to two of them.
func testApart(t *testing.T, name string, masses []int, lists ...[]api.Rat) {
	t.Helper()
	l := append(memory(lists...), masses)
	for i, limbs := range l {
		for k := range limbs {
			limbs[k] = -i
		}
	}
	for i, limbs := range l {
		if slices.ContainsFunc(limbs, func(n int) bool { return n != -i }) {
			t.Fatalf("%s: limbs share memory", name)
		}
	}
	for i, parts := range lists {
		for k := range parts[:cap(parts)] {
			parts[:cap(parts)][k] = api.Rat{P: api.Nat{i}}
		}
	}
	for i, parts := range lists {
		for _, a := range parts[:cap(parts)] {
			if a.P[0] != i {
				t.Fatalf("%s: parts share memory", name)
			}
		}
	}
}

// P17.3 to P17.7: results are new memory.
func TestMemoryOfResults(t *testing.T) {
	for _, n := range lengths() {
		for _, part := range rats(of(0, 1), of(7, 1), of(22, 3), long(3, 20), long(1, 400)) {
			for _, mass := range ints(0, 1, 5) {
				a, b := roomy(1000, changed(repeated(n, of(1, 3)), 0, part)...), roomy(2000, changed(repeated(n, of(2, 7)), n-1, part)...)
				testMemory(t, a, b, mass)
			}
		}
	}
}

func testMemory(t *testing.T, a api.Tank, b api.Tank, mass int) {
	t.Helper()
	n := len(a.Parts)
	again := func(x api.Tank) api.Tank { return roomy(x.Cap, x.Parts...) }
	if x, e := tank.New(n, 9); e == api.OK {
		testApart(t, "New", nil, x.Parts)
	}
	x, m := again(a), repeated(n, mass)
	if full, e := tank.Fill(x, m); e == api.OK {
		testApart(t, "Fill", m, x.Parts, full.Parts)
	}
	x = again(a)
	if left, taken, e := tank.Draw(x, mass); e == api.OK {
		testApart(t, "Draw", nil, x.Parts, left.Parts, taken)
	}
	x, y := again(a), again(b)
	if left, full, e := tank.Pour(x, y, mass); e == api.OK {
		testApart(t, "Pour", nil, x.Parts, y.Parts, left.Parts, full.Parts)
	}
	x = again(a)
	if left, full, e := tank.Pour(x, x, mass); e == api.OK {
		testApart(t, "Pour", nil, x.Parts, left.Parts, full.Parts)
	}
	x = again(a)
	if level, e := tank.Level(x); e == api.OK {
		testApart(t, "Level", nil, x.Parts, rats(level))
	}
	for kind := range n {
		x = again(a)
		if part, e := tank.Part(x, kind); e == api.OK {
			testApart(t, "Part", nil, x.Parts, rats(part))
		}
	}
}

// The parts of a tank may be the same limbs; those of results are not.
func TestPartsThatShareLimbs(t *testing.T) {
	for _, n := range lengths() {
		for _, part := range rats(of(0, 1), of(7, 1), of(22, 3), long(3, 20)) {
			for _, mass := range ints(0, 1, 3) {
				a := holding(1000, repeated(n, part)...)
				testFill(t, a, repeated(n, mass))
				testDraw(t, a, mass)
				testPour(t, a, a, mass)
				if left, taken, e := tank.Draw(a, mass); e == api.OK {
					testApart(t, "Draw", nil, left.Parts, taken)
				}
				if left, full, e := tank.Pour(a, a, mass); e == api.OK {
					testApart(t, "Pour", nil, left.Parts, full.Parts)
				}
				if full, e := tank.Fill(a, repeated(n, mass)); e == api.OK {
					testApart(t, "Fill", nil, full.Parts)
				}
			}
		}
	}
}

// What lies behind the parts, their limbs and the masses stays as it is.
func TestMemoryBehindArguments(t *testing.T) {
	for _, mass := range ints(0, 1, 4, 15, 16) {
		a, m := roomy(20, of(10, 1), of(5, 1)), ints(mass, 0, -5, -6)
		for _, limbs := range memory(a.Parts) {
			for k := range limbs[1:] {
				limbs[k+1] = -9
			}
		}
		behind := a.Parts[2:cap(a.Parts)]
		for k := range behind {
			behind[k] = of(-8, 9)
		}
		tank.New(2, mass)
		tank.Check(a)
		tank.Level(a)
		tank.Fill(a, m[:2])
		tank.Draw(a, mass)
		tank.Pour(a, a, mass)
		tank.Part(a, 1)
		for _, limbs := range memory(a.Parts) {
			if slices.ContainsFunc(limbs[1:], func(n int) bool { return n != -9 }) {
				t.Fatalf("behind the limbs is %v", limbs)
			}
		}
		if slices.ContainsFunc(behind, func(x api.Rat) bool { return !same(x, of(-8, 9)) }) || !slices.Equal(m, ints(mass, 0, -5, -6)) {
			t.Fatalf("behind the parts is %v, and the masses are %v", behind, m)
		}
	}
}
