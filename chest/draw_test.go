package chest_test

import (
	"math/big"
	"slices"
	"testing"

	"papermill/api"
	"papermill/chest"
	"papermill/tank"
)

// amounts are masses around the level and the capacity of a chest, and others.
func amounts(c api.Chest) []int {
	level := sum(c.Parts)
	return append(numerous(level), 7, level+1, level+2, c.Cap, c.Cap+1, heavy-1, heavy, heavy+1, -1, least, great)
}

// pairs are two chests with n parts each, some of them equal.
func pairs(n int) [][2]api.Chest {
	l := chests(n)
	var p [][2]api.Chest
	for i, c := range l {
		for _, k := range ints(0, 1, 7, 2*n+3) {
			p = append(p, [2]api.Chest{c, l[(i+k)%len(l)]})
		}
		p = append(p, [2]api.Chest{c, of(heavy, repeated(n, i)...)}, [2]api.Chest{c, of(sum(c.Parts)+1, only(n, i%n, 1)...)})
	}
	return p
}

// P18.5

func testDraw(t *testing.T, c api.Chest, mass int) api.Errno {
	t.Helper()
	before := copied(c)
	var want api.Chest
	var parts []int
	wanted := outcome(func() { want, parts = modelDraw(c, mass) })
	left, taken, e := chest.Draw(c, mass)
	if e != wanted || !same(left, want) || !slices.Equal(taken, parts) {
		t.Fatalf("Draw(%v, %d) = %v, %v, %d, not %v, %v, %d", c, mass, left, taken, e, want, parts, wanted)
	}
	if !same(c, before) {
		t.Fatalf("%v is changed to %v", before, c)
	}
	return wanted
}

func TestDrawExamples(t *testing.T) {
	for _, x := range []struct {
		c     api.Chest
		mass  int
		left  []int
		taken []int
	}{
		{of(100, 10, 5), 4, ints(7, 4), ints(3, 1)}, {of(100, 7, 4), 4, ints(4, 3), ints(3, 1)}, {of(100, 10, 5), 0, ints(10, 5), ints(0, 0)}, {of(100, 10, 5), 1, ints(9, 5), ints(1, 0)}, {of(100, 10, 5), 2, ints(9, 4), ints(1, 1)}, {of(100, 10, 5), 3, ints(8, 4), ints(2, 1)}, {of(100, 10, 5), 14, ints(1, 0), ints(9, 5)}, {of(100, 10, 5), 15, ints(0, 0), ints(10, 5)}, {of(15, 5, 10), 4, ints(4, 7), ints(1, 3)},
		{of(9, 0, 0), 0, ints(0, 0), ints(0, 0)}, {of(1, 0), 0, ints(0), ints(0)}, {of(1, 1), 0, ints(1), ints(0)}, {of(1, 1), 1, ints(0), ints(1)}, {of(heavy, repeated(most, 0)...), 0, repeated(most, 0), repeated(most, 0)},
		// Equal remainders: the first kinds give a gram more.
		{of(9, 1, 1, 1), 1, ints(0, 1, 1), ints(1, 0, 0)}, {of(9, 1, 1, 1), 2, ints(0, 0, 1), ints(1, 1, 0)}, {of(9, 3, 3), 3, ints(1, 2), ints(2, 1)}, {of(9, 2, 2, 2), 4, ints(0, 1, 1), ints(2, 1, 1)}, {of(9, 2, 2, 2), 5, ints(0, 0, 1), ints(2, 2, 1)}, {of(9, 0, 2, 0, 2), 1, ints(0, 1, 0, 2), ints(0, 1, 0, 0)}, {of(8, repeated(most, 1)...), 7, only(most, 7, 1), changed(repeated(most, 1), 7, 0)}, {of(9, 3, 1), 2, ints(1, 1), ints(2, 0)}, {of(9, 1, 3), 2, ints(0, 2), ints(1, 1)},
		// Kinds without fibre give nothing.
		{of(9, 9, 0), 4, ints(5, 0), ints(4, 0)}, {of(9, 0, 9), 9, ints(0, 0), ints(0, 9)}, {of(9, 0, 5, 0), 1, ints(0, 4, 0), ints(0, 1, 0)},
		{of(heavy, heavy), heavy, ints(0), ints(heavy)}, {of(heavy, heavy), heavy - 1, ints(1), ints(heavy - 1)}, {of(heavy, heavy), 1, ints(heavy - 1), ints(1)}, {of(heavy, heavy-1, 1), heavy, ints(0, 0), ints(heavy-1, 1)}, {of(heavy, heavy-1, 1), heavy - 1, ints(1, 0), ints(heavy-2, 1)}, {of(heavy, heavy-1, 1), heavy / 2, ints(heavy/2-1, 1), ints(heavy/2, 0)}, {of(heavy, 1, heavy-1), heavy / 2, ints(0, heavy/2), ints(1, heavy/2-1)}, {of(heavy, 1, heavy-1), heavy/2 + 1, ints(0, heavy/2-1), ints(1, heavy/2)}, {of(heavy, repeated(most, heavy/most)...), heavy, repeated(most, 0), repeated(most, heavy/most)}, {of(heavy, repeated(most, heavy/most)...), heavy - 1, only(most, most-1, 1), changed(repeated(most, heavy/most), most-1, heavy/most-1)},
	} {
		left, taken, e := chest.Draw(x.c, x.mass)
		if e != api.OK || !same(left, of(x.c.Cap, x.left...)) || !slices.Equal(taken, x.taken) {
			t.Errorf("Draw(%v, %d) = %v, %v, %d, not %v, %v", x.c, x.mass, left, taken, e, x.left, x.taken)
		}
		testDraw(t, x.c, x.mass)
	}
}

func TestDraws(t *testing.T) {
	next := random()
	for _, n := range lengths() {
		for _, c := range chests(n) {
			for _, mass := range append(amounts(c), next(sum(c.Parts)+1), next(sum(c.Parts)+1)) {
				testDraw(t, c, mass)
			}
		}
	}
}

// All draws from all chests with few and small parts, one of them more than there is.
func TestDrawsFromSmallChests(t *testing.T) {
	for n, greatest := range ints(0, 12, 9, 5, 3, 2) {
		if n == 0 {
			continue
		}
		for _, parts := range small(n, greatest) {
			for mass := -1; mass <= sum(parts)+1; mass++ {
				testDraw(t, of(50, parts...), mass)
			}
		}
	}
}

// Draws and fills follow each other; at the end the chest is emptied.
func TestDrawsOneAfterTheOther(t *testing.T) {
	for _, n := range lengths() {
		for _, capacity := range ints(20, 1000, heavy) {
			next := random()
			c, _ := chest.New(n, capacity)
			for range 200 {
				m := cut(n, next(capacity-sum(c.Parts)+1), next)
				if e := testFill(t, c, m); e != api.OK {
					t.Fatalf("Fill(%v, %v) = %d", c, m, e)
				}
				c, _ = chest.Fill(c, m)
				for range 3 {
					mass := next(sum(c.Parts) + 1)
					testDraw(t, c, mass)
					c, _, _ = chest.Draw(c, mass)
				}
			}
			testDraw(t, c, sum(c.Parts))
		}
	}
}

// P18.6

func testPour(t *testing.T, a api.Chest, b api.Chest, mass int) api.Errno {
	t.Helper()
	beforeA, beforeB := copied(a), copied(b)
	var wantA, wantB api.Chest
	wanted := outcome(func() { wantA, wantB = modelPour(a, b, mass) })
	left, full, e := chest.Pour(a, b, mass)
	if e != wanted || !same(left, wantA) || !same(full, wantB) {
		t.Fatalf("Pour(%v, %v, %d) = %v, %v, %d, not %v, %v, %d", a, b, mass, left, full, e, wantA, wantB, wanted)
	}
	if !same(a, beforeA) || !same(b, beforeB) {
		t.Fatalf("%v and %v are changed to %v and %v", beforeA, beforeB, a, b)
	}
	return wanted
}

func TestPourExamples(t *testing.T) {
	a, b := of(100, 10, 5), of(20, 1, 15)
	empty := of(15, 0, 0)
	for _, x := range []struct {
		a    api.Chest
		b    api.Chest
		mass int
		left []int
		full []int
		e    api.Errno
	}{
		{a, b, 4, ints(7, 4), ints(4, 16), api.OK}, {a, b, 5, nil, nil, api.ErrFull}, {a, b, 15, nil, nil, api.ErrFull}, {a, b, 16, nil, nil, api.ErrStock}, {a, b, heavy, nil, nil, api.ErrStock}, {a, b, heavy + 1, nil, nil, api.ErrRange}, {a, b, -1, nil, nil, api.ErrRange}, {a, b, 0, ints(10, 5), ints(1, 15), api.OK}, {b, a, 16, ints(0, 0), ints(11, 20), api.OK}, {b, a, 17, nil, nil, api.ErrStock}, {a, of(31, 1, 15), 15, ints(0, 0), ints(11, 20), api.OK}, {a, of(30, 1, 15), 15, nil, nil, api.ErrFull},
		{a, a, 0, ints(10, 5), ints(10, 5), api.OK}, {a, a, 4, ints(7, 4), ints(13, 6), api.OK}, {a, a, 15, ints(0, 0), ints(20, 10), api.OK}, {a, a, 16, nil, nil, api.ErrStock}, {of(15, 10, 5), of(15, 10, 5), 0, ints(10, 5), ints(10, 5), api.OK}, {of(15, 10, 5), of(15, 10, 5), 1, nil, nil, api.ErrFull}, {of(19, 10, 5), of(19, 10, 5), 4, ints(7, 4), ints(13, 6), api.OK}, {of(19, 10, 5), of(19, 10, 5), 5, nil, nil, api.ErrFull},
		{a, empty, 15, ints(0, 0), ints(10, 5), api.OK}, {a, of(14, 0, 0), 15, nil, nil, api.ErrFull}, {a, of(14, 0, 0), 14, ints(1, 0), ints(9, 5), api.OK}, {empty, a, 0, ints(0, 0), ints(10, 5), api.OK}, {empty, a, 1, nil, nil, api.ErrStock}, {empty, empty, 0, ints(0, 0), ints(0, 0), api.OK}, {empty, empty, 1, nil, nil, api.ErrStock},
		{of(1, 1), of(1, 0), 1, ints(0), ints(1), api.OK}, {of(1, 1), of(1, 1), 1, nil, nil, api.ErrFull}, {of(1, 1), of(1, 1), 0, ints(1), ints(1), api.OK}, {of(1, 1), of(1, 1), 2, nil, nil, api.ErrStock},
		{of(heavy, heavy), of(heavy, 0), heavy, ints(0), ints(heavy), api.OK}, {of(heavy, heavy), of(heavy, 1), heavy - 1, ints(1), ints(heavy), api.OK}, {of(heavy, heavy), of(heavy, 1), heavy, nil, nil, api.ErrFull}, {of(heavy, heavy), of(heavy, heavy), heavy, nil, nil, api.ErrFull}, {of(heavy, heavy), of(heavy, heavy), 1, nil, nil, api.ErrFull}, {of(heavy, heavy), of(heavy, heavy), 0, ints(heavy), ints(heavy), api.OK},
		// Chests with different numbers of parts, with masses that would be refused as well.
		{a, of(9, 0), 1, nil, nil, api.ErrKind}, {a, of(9, 0), 16, nil, nil, api.ErrKind}, {a, of(9, 0), -1, nil, nil, api.ErrKind}, {a, of(9, 0), heavy + 1, nil, nil, api.ErrKind}, {of(9, 0), a, 0, nil, nil, api.ErrKind}, {of(9, 9), of(9, 9, 0), 1, nil, nil, api.ErrKind}, {a, of(9, 0, 0, 0), 0, nil, nil, api.ErrKind},
	} {
		left, full, e := chest.Pour(x.a, x.b, x.mass)
		if e != x.e || e == api.OK && (!same(left, of(x.a.Cap, x.left...)) || !same(full, of(x.b.Cap, x.full...))) {
			t.Errorf("Pour(%v, %v, %d) = %v, %v, %d, not %v, %v, %d", x.a, x.b, x.mass, left, full, e, x.left, x.full, x.e)
		}
		testPour(t, x.a, x.b, x.mass)
	}
}

func TestPours(t *testing.T) {
	for _, n := range lengths() {
		counts := map[api.Errno]int{}
		for _, p := range pairs(n) {
			room := p[1].Cap - sum(p[1].Parts)
			for _, mass := range append(amounts(p[0]), room-1, room, room+1) {
				counts[testPour(t, p[0], p[1], mass)]++
			}
		}
		if counts[api.OK] == 0 || counts[api.ErrFull] == 0 || counts[api.ErrStock] == 0 || counts[api.ErrRange] == 0 || len(counts) != 4 {
			t.Errorf("the errors are %v", counts)
		}
	}
}

func TestPoursOfSmallChests(t *testing.T) {
	for n := 1; n <= 3; n++ {
		for _, a := range small(n, 2) {
			for _, b := range small(n, 2) {
				for c := max(sum(b), 1); c <= sum(a)+sum(b)+1; c++ {
					for mass := -1; mass <= sum(a)+1; mass++ {
						testPour(t, of(9, a...), of(c, b...), mass)
					}
				}
			}
		}
	}
}

// P18.9

// value is a rational number that is not negative.
func value(a api.Rat) *big.Rat {
	whole := func(n api.Nat) *big.Int {
		x := new(big.Int)
		for _, limb := range slices.Backward(n) {
			x.Add(x.Mul(x, big.NewInt(api.Limb)), big.NewInt(int64(limb)))
		}
		return x
	}
	return new(big.Rat).SetFrac(whole(a.P), whole(a.Q))
}

// near fails unless each part of the chest differs from that of the tank by less than a number of grams, or for 0 is equal to it.
func near(t *testing.T, c api.Chest, b api.Tank, draws int) {
	t.Helper()
	if len(c.Parts) != len(b.Parts) {
		t.Fatalf("%v has other parts than %v", c, b)
	}
	for i, part := range c.Parts {
		d := new(big.Rat).Sub(big.NewRat(int64(part), 1), value(b.Parts[i]))
		if d.Sign() != 0 && d.Abs(d).Cmp(big.NewRat(int64(draws), 1)) >= 0 {
			t.Fatalf("after %d draws part %d of %v differs by %v", draws, i, c, d)
		}
	}
}

// history goes through the same fills and draws with a chest and a tank, until the numbers of the tank are too long or it has drawn often enough. It returns the number of draws.
func history(t *testing.T, c api.Chest, often int, mass func(level int) int, refill func(room int) []int) int {
	t.Helper()
	b, _ := tank.New(len(c.Parts), c.Cap)
	b, e := tank.Fill(b, c.Parts)
	if e != api.OK {
		t.Fatalf("a tank with the parts of %v: %d", c, e)
	}
	near(t, c, b, 0)
	for draws := range often {
		m := refill(c.Cap - sum(c.Parts))
		full, e := tank.Fill(b, m)
		if e == api.ErrOverflow {
			return draws
		}
		if testFill(t, c, m) != api.OK || e != api.OK {
			t.Fatalf("after %d draws %v are filled into %v and %v: %d", draws, m, c, b, e)
		}
		c, _ = chest.Fill(c, m)
		near(t, c, full, draws)
		out := mass(sum(c.Parts))
		left, _, e := tank.Draw(full, out)
		if e == api.ErrOverflow {
			return draws
		}
		if testDraw(t, c, out) != api.OK || e != api.OK {
			t.Fatalf("after %d draws %d are drawn from %v and %v: %d", draws, out, c, full, e)
		}
		c, _, _ = chest.Draw(c, out)
		near(t, c, left, draws+1)
		b = left
	}
	return often
}

// Draws of half the level and the like keep the numbers of the tank short.
func TestLongHistoriesOfChestAndTank(t *testing.T) {
	for _, n := range lengths() {
		for _, c := range ints(8, 1000, heavy) {
			for _, out := range ints(c/2, c/4, 1, c-1) {
				next := random()
				start := of(c, cut(n, c, next)...)
				draws := history(t, start, 100, func(level int) int { return min(out, level) }, func(room int) []int { return cut(n, room, next) })
				if draws < 15 {
					t.Errorf("%d draws of %d from %v", draws, out, start)
				}
			}
		}
	}
}

func TestHistoriesOfChestAndTank(t *testing.T) {
	for _, n := range lengths() {
		for _, c := range ints(3, 20, 1000003, heavy) {
			next := random()
			for _, start := range []api.Chest{of(c, repeated(n, 0)...), of(c, uneven(n, c)...), of(c, only(n, n/2, c)...)} {
				draws := history(t, start, 40, func(level int) int { return next(level + 1) }, func(room int) []int { return cut(n, next(room+1), next) })
				if draws < 10 {
					t.Errorf("%d draws from %v", draws, start)
				}
			}
		}
	}
}

// Without fills, gram by gram, until nothing is left.
func TestEmptyingChestAndTank(t *testing.T) {
	for _, n := range lengths() {
		for _, c := range ints(1, 2, 7, 8, 20, 30) {
			for _, parts := range [][]int{uneven(n, c), only(n, n/2, c), repeated(n, c/n), changed(repeated(n, 0), n-1, 1)} {
				if draws := history(t, of(c, parts...), sum(parts), func(int) int { return 1 }, func(int) []int { return make([]int, n) }); draws != sum(parts) {
					t.Errorf("%d draws from %v", draws, parts)
				}
			}
		}
	}
}
