package chest_test

import (
	"math/big"
	"slices"
	"testing"

	"papermill/api"
	"papermill/chest"
)

// P18.1

func TestNew(t *testing.T) {
	for _, n := range lengths() {
		for _, c := range ints(1, 2, 3, 100, 1<<31, heavy/2, heavy-1, heavy) {
			x, e := chest.New(n, c)
			if e != api.OK || !same(x, of(c, repeated(n, 0)...)) {
				t.Fatalf("New(%d, %d) = %v, %d", n, c, x, e)
			}
			if level, e := chest.Level(x); e != api.OK || level != 0 {
				t.Errorf("Level of New(%d, %d) = %d, %d", n, c, level, e)
			}
		}
	}
}

// P18.2 and P18.3

func testLevel(t *testing.T, c api.Chest) api.Errno {
	t.Helper()
	before := copied(c)
	want := 0
	wanted := outcome(func() { want = modelLevel(c) })
	if e := chest.Check(c); e != wanted {
		t.Fatalf("Check(%v) = %d, not %d", c, e, wanted)
	}
	if level, e := chest.Level(c); level != want || e != wanted {
		t.Fatalf("Level(%v) = %d, %d, not %d, %d", c, level, e, want, wanted)
	}
	if !same(c, before) {
		t.Fatalf("%v is changed to %v", before, c)
	}
	return wanted
}

func TestLevelExamples(t *testing.T) {
	for _, x := range []struct {
		c     api.Chest
		level int
		e     api.Errno
	}{
		{of(100, 10, 5), 15, api.OK}, {of(15, 10, 5), 15, api.OK}, {of(14, 10, 5), 0, api.ErrFull}, {of(1, 10, 5), 0, api.ErrFull}, {of(1, 0), 0, api.OK}, {of(1, 1), 1, api.OK}, {of(1, 2), 0, api.ErrFull}, {of(1, 1, 1), 0, api.ErrFull}, {of(1, 0, 1), 1, api.OK}, {of(1, heavy), 0, api.ErrFull},
		{of(heavy, heavy), heavy, api.OK}, {of(heavy, heavy-1, 1), heavy, api.OK}, {of(heavy, heavy-1), heavy - 1, api.OK}, {of(heavy, heavy, 1), 0, api.ErrFull}, {of(heavy, 1, heavy), 0, api.ErrFull}, {of(heavy-1, heavy), 0, api.ErrFull}, {of(heavy-1, 0, heavy), 0, api.ErrFull}, {of(heavy, heavy+1), 0, api.ErrRange}, {of(heavy, heavy, -1), 0, api.ErrRange},
		{of(heavy, repeated(most, heavy/most)...), heavy, api.OK}, {of(heavy, changed(repeated(most, heavy/most), 7, heavy/most+1)...), 0, api.ErrFull}, {of(heavy, repeated(most, heavy)...), 0, api.ErrFull}, {of(8, repeated(most, 1)...), 8, api.OK}, {of(7, repeated(most, 1)...), 0, api.ErrFull}, {of(heavy, repeated(most+1, 0)...), 0, api.ErrKind}, {of(heavy), 0, api.ErrKind}, {of(0), 0, api.ErrRange},
		// The sums of these parts are in range if they wrap around.
		{of(9, great, great, 2), 0, api.ErrRange}, {of(9, least, least), 0, api.ErrRange}, {of(9, least, least, 5), 0, api.ErrRange}, {of(9, 1<<62, 1<<62, 1<<62, 1<<62), 0, api.ErrRange}, {of(9, repeated(most, 1<<61)...), 0, api.ErrRange}, {of(9, great, least, 1), 0, api.ErrRange}, {of(9, 10, -1), 0, api.ErrRange}, {of(9, -1, 10), 0, api.ErrRange},
	} {
		if level, e := chest.Level(x.c); level != x.level || e != x.e {
			t.Errorf("Level(%v) = %d, %d, not %d, %d", x.c, level, e, x.level, x.e)
		}
		testLevel(t, x.c)
	}
}

func TestLevels(t *testing.T) {
	for _, n := range lengths() {
		for _, c := range chests(n) {
			if e := testLevel(t, c); e != api.OK {
				t.Fatalf("Check(%v) = %d", c, e)
			}
			// Just enough, and too much by 1 and by far, in each place.
			room := c.Cap - sum(c.Parts)
			for i, part := range c.Parts {
				for _, x := range ints(part+room, part+room+1, part+room+2, heavy) {
					testLevel(t, of(c.Cap, changed(c.Parts, i, x)...))
				}
			}
		}
	}
	for n := 1; n <= 4; n++ {
		for _, parts := range small(n, 3) {
			for c := 1; c <= 13; c++ {
				testLevel(t, of(c, parts...))
			}
		}
	}
}

// P18.4

func testFill(t *testing.T, c api.Chest, m []int) api.Errno {
	t.Helper()
	before, masses := copied(c), slices.Clone(m)
	var want api.Chest
	wanted := outcome(func() { want = modelFill(c, m) })
	if full, e := chest.Fill(c, m); e != wanted || !same(full, want) {
		t.Fatalf("Fill(%v, %v) = %v, %d, not %v, %d", c, m, full, e, want, wanted)
	}
	if !same(c, before) || !slices.Equal(m, masses) {
		t.Fatalf("%v and %v are changed to %v and %v", before, masses, c, m)
	}
	return wanted
}

func TestFillExamples(t *testing.T) {
	for _, x := range []struct {
		c    api.Chest
		m    []int
		full []int
		e    api.Errno
	}{
		{of(100, 10, 5), ints(80, 5), ints(90, 10), api.OK}, {of(100, 10, 5), ints(80, 6), nil, api.ErrFull}, {of(100, 10, 5), ints(81, 5), nil, api.ErrFull}, {of(100, 10, 5), ints(85, 0), ints(95, 5), api.OK}, {of(100, 10, 5), ints(0, 85), ints(10, 90), api.OK}, {of(100, 10, 5), ints(86, 0), nil, api.ErrFull}, {of(100, 10, 5), ints(0, 86), nil, api.ErrFull}, {of(100, 10, 5), ints(0, 0), ints(10, 5), api.OK}, {of(15, 10, 5), ints(0, 0), ints(10, 5), api.OK}, {of(15, 10, 5), ints(0, 1), nil, api.ErrFull}, {of(100, 10, 5), ints(100, 100), nil, api.ErrFull},
		{of(1, 0), ints(0), ints(0), api.OK}, {of(1, 0), ints(1), ints(1), api.OK}, {of(1, 0), ints(2), nil, api.ErrFull}, {of(1, 1), ints(0), ints(1), api.OK}, {of(1, 1), ints(1), nil, api.ErrFull}, {of(1, 0, 1, 0), ints(1, 0, 0), nil, api.ErrFull},
		{of(heavy, 0), ints(heavy), ints(heavy), api.OK}, {of(heavy, 1), ints(heavy - 1), ints(heavy), api.OK}, {of(heavy, 0, 1), ints(heavy-1, 0), ints(heavy-1, 1), api.OK}, {of(heavy, 0, 1), ints(heavy, 0), nil, api.ErrFull}, {of(heavy, repeated(most, 0)...), repeated(most, heavy/most), repeated(most, heavy/most), api.OK}, {of(heavy, 1, 1, 1, 1, 1, 1, 1, 1), repeated(most, heavy/most-1), repeated(most, heavy/most), api.OK}, {of(heavy, 1, 1, 1, 1, 1, 1, 1, 2), repeated(most, heavy/most-1), nil, api.ErrFull},
		// The chest is too full, even if one part alone is greater than any may be.
		{of(heavy, 1), ints(heavy), nil, api.ErrFull}, {of(heavy, heavy), ints(heavy), nil, api.ErrFull}, {of(heavy, heavy, 0), ints(1, 0), nil, api.ErrFull}, {of(heavy, 0, heavy), ints(heavy, heavy), nil, api.ErrFull}, {of(heavy, repeated(most, heavy/most)...), repeated(most, heavy), nil, api.ErrFull}, {of(3, 1, 1), ints(heavy, heavy), nil, api.ErrFull},
	} {
		full, e := chest.Fill(x.c, x.m)
		if e != x.e || e == api.OK && !same(full, of(x.c.Cap, x.full...)) {
			t.Errorf("Fill(%v, %v) = %v, %d, not %v, %d", x.c, x.m, full, e, x.full, x.e)
		}
		testFill(t, x.c, x.m)
	}
}

// loads are lists of masses for the room that is left in a chest, and others.
func loads(c api.Chest, next func(n int) int) [][]int {
	n, room := len(c.Parts), c.Cap-sum(c.Parts)
	l := [][]int{repeated(n, room/n), repeated(n, room/n+1), cut(n, room, next), cut(n, room+1, next), repeated(n, heavy)}
	for i := range n {
		for _, mass := range ints(0, 1, room/2, max(room-1, 0), room, room+1, c.Cap, heavy) {
			l = append(l, only(n, i, min(mass, heavy)))
		}
		l = append(l, changed(repeated(n, room/n), i, 0), changed(repeated(n, room/n), i, room/n+room%n))
	}
	return l
}

func TestFills(t *testing.T) {
	next := random()
	counts := map[api.Errno]int{}
	for _, n := range lengths() {
		for _, c := range chests(n) {
			for _, m := range loads(c, next) {
				counts[testFill(t, c, m)]++
			}
		}
	}
	if counts[api.OK] == 0 || counts[api.ErrFull] == 0 {
		t.Errorf("the errors are %v", counts)
	}
}

func TestFillsOfSmallChests(t *testing.T) {
	for n := 1; n <= 3; n++ {
		for _, parts := range small(n, 2) {
			for _, m := range small(n, 2) {
				for c := 1; c <= 13; c++ {
					testFill(t, of(c, parts...), m)
				}
			}
		}
	}
}

// P18.7

func testRate(t *testing.T, c api.Chest, kind int) api.Errno {
	t.Helper()
	before := copied(c)
	want := 0
	wanted := outcome(func() { want = modelRate(c, kind) })
	if rate, e := chest.Rate(c, kind); rate != want || e != wanted {
		t.Fatalf("Rate(%v, %d) = %d, %d, not %d, %d", c, kind, rate, e, want, wanted)
	}
	if !same(c, before) {
		t.Fatalf("%v is changed to %v", before, c)
	}
	return wanted
}

func TestRateExamples(t *testing.T) {
	for _, x := range []struct {
		c    api.Chest
		kind int
		rate int
		e    api.Errno
	}{
		{of(100, 10, 5), 0, 666, api.OK}, {of(100, 10, 5), 1, 333, api.OK}, {of(15, 10, 5), 0, 666, api.OK}, {of(100, 10, 5), 2, 0, api.ErrNone}, {of(100, 10, 5), -1, 0, api.ErrNone}, {of(100, 0, 5), 0, 0, api.OK}, {of(100, 0, 5), 1, 1000, api.OK}, {of(100, 1, 1), 1, 500, api.OK},
		{of(1, 1), 0, 1000, api.OK}, {of(1, 0), 0, 0, api.ErrEmpty}, {of(1, 0), 1, 0, api.ErrNone}, {of(1, 0), -1, 0, api.ErrNone}, {of(9, 0, 0, 0), 2, 0, api.ErrEmpty}, {of(9, 0, 0, 0), 3, 0, api.ErrNone}, {of(heavy, repeated(most, 0)...), 7, 0, api.ErrEmpty}, {of(heavy, repeated(most, 0)...), 8, 0, api.ErrNone},
		{of(heavy, heavy), 0, 1000, api.OK}, {of(heavy, heavy-1, 1), 0, 999, api.OK}, {of(heavy, heavy-1, 1), 1, 0, api.OK}, {of(heavy, 0, 0, heavy), 2, 1000, api.OK}, {of(heavy, 0, 0, heavy), 1, 0, api.OK}, {of(heavy, repeated(most, heavy/most)...), 7, 125, api.OK}, {of(heavy, heavy/2, heavy/2), 0, 500, api.OK}, {of(heavy, heavy/2-1, heavy/2+1), 0, 499, api.OK}, {of(heavy, heavy/2-1, heavy/2+1), 1, 500, api.OK},
		// One gram of 1000 is 1 per mille, of 1001 it is less.
		{of(1000, 1, 999), 0, 1, api.OK}, {of(1001, 1, 1000), 0, 0, api.OK}, {of(1001, 1, 1000), 1, 999, api.OK}, {of(2000, 3, 1996), 0, 1, api.OK}, {of(2000, 4, 1996), 0, 2, api.OK}, {of(8, repeated(most, 1)...), 3, 125, api.OK}, {of(7, repeated(7, 1)...), 6, 142, api.OK},
	} {
		if rate, e := chest.Rate(x.c, x.kind); rate != x.rate || e != x.e {
			t.Errorf("Rate(%v, %d) = %d, %d, not %d, %d", x.c, x.kind, rate, e, x.rate, x.e)
		}
		testRate(t, x.c, x.kind)
	}
}

func TestRates(t *testing.T) {
	for _, n := range lengths() {
		for _, c := range chests(n) {
			for kind := -2; kind < n+2; kind++ {
				testRate(t, c, kind)
			}
		}
	}
	for n := 1; n <= 3; n++ {
		for _, parts := range small(n, 7) {
			for kind := -1; kind <= n; kind++ {
				testRate(t, of(99, parts...), kind)
			}
		}
	}
}

// P18.8

func TestFillLosesNothing(t *testing.T) {
	next := random()
	for _, n := range lengths() {
		for _, c := range chests(n) {
			for _, m := range loads(c, next) {
				full, e := chest.Fill(c, m)
				if e != api.OK {
					continue
				}
				before, _ := chest.Level(c)
				after, e := chest.Level(full)
				if e != api.OK || full.Cap != c.Cap || after != before+sum(m) || !slices.Equal(full.Parts, sums(c.Parts, m)) {
					t.Fatalf("Fill(%v, %v) = %v", c, m, full)
				}
			}
		}
	}
}

func TestDrawLosesNothing(t *testing.T) {
	for _, n := range lengths() {
		for _, c := range chests(n) {
			for _, mass := range amounts(c) {
				left, taken, e := chest.Draw(c, mass)
				if e != api.OK {
					continue
				}
				if chest.Check(left) != api.OK || left.Cap != c.Cap || sum(taken) != mass || !slices.Equal(sums(left.Parts, taken), c.Parts) {
					t.Fatalf("Draw(%v, %d) = %v, %v", c, mass, left, taken)
				}
			}
		}
	}
}

func TestPourLosesNothing(t *testing.T) {
	for _, n := range lengths() {
		for _, p := range pairs(n) {
			for _, mass := range append(amounts(p[0]), numerous(p[1].Cap-sum(p[1].Parts))...) {
				left, full, e := chest.Pour(p[0], p[1], mass)
				if e != api.OK {
					continue
				}
				if chest.Check(left) != api.OK || chest.Check(full) != api.OK || left.Cap != p[0].Cap || full.Cap != p[1].Cap || !slices.Equal(sums(left.Parts, full.Parts), sums(p[0].Parts, p[1].Parts)) {
					t.Fatalf("Pour(%v, %v, %d) = %v, %v", p[0], p[1], mass, left, full)
				}
			}
		}
	}
}

// P18.10

// proportional fails unless what was taken of each kind differs by less than a gram from the exact share, and is it if that is an integer.
func proportional(t *testing.T, c api.Chest, mass int) {
	t.Helper()
	left, taken, e := chest.Draw(c, mass)
	if e != api.OK || len(taken) != len(c.Parts) {
		t.Fatalf("Draw(%v, %d) = %v, %v, %d", c, mass, left, taken, e)
	}
	level := sum(c.Parts)
	for i, part := range c.Parts {
		d := new(big.Int).Sub(product(mass, part), product(taken[i], level))
		if level > 0 && d.CmpAbs(big.NewInt(int64(level))) >= 0 || level == 0 && taken[i] != 0 {
			t.Fatalf("Draw(%v, %d) takes %v", c, mass, taken)
		}
	}
	if mass == level && !same(left, of(c.Cap, make([]int, len(c.Parts))...)) {
		t.Fatalf("Draw(%v, %d) leaves %v", c, mass, left)
	}
}

func TestProportions(t *testing.T) {
	next := random()
	for _, n := range lengths() {
		for _, c := range chests(n) {
			level := sum(c.Parts)
			for _, mass := range append(numerous(level), next(level+1), next(level+1)) {
				if mass >= 0 && mass <= level {
					proportional(t, c, mass)
				}
			}
		}
		for _, parts := range small(min(n, 4), 4) {
			for mass := range sum(parts) + 1 {
				proportional(t, of(50, parts...), mass)
			}
		}
	}
}
