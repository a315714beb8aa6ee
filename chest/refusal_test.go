package chest_test

import (
	"slices"
	"testing"

	"papermill/api"
	"papermill/chest"
)

// tried is an argument, with the error that it has whatever the arguments behind it are.
type tried[T any] struct {
	x T
	e api.Errno
}

// first returns the first error, in the order in which the chapter lists them.
func first(l ...api.Errno) api.Errno {
	for _, e := range l {
		if e != api.OK {
			return e
		}
	}
	return api.OK
}

// badParts are lists of n parts that no chest of this capacity has.
func badParts(n int, c int) []tried[[]int] {
	var l []tried[[]int]
	// The other parts are valid, or too great for the chest.
	lists := [][]int{repeated(n, 0), repeated(n, c/n), repeated(n, heavy)}
	for i := range n {
		for _, x := range outside(0, heavy) {
			for _, parts := range lists {
				l = append(l, tried[[]int]{changed(parts, i, x), api.ErrRange})
			}
			// Together with the other part they may be as much as fits.
			other := (i + 1) % n
			l = append(l, tried[[]int]{changed(changed(lists[0], other, c-x), i, x), api.ErrRange}, tried[[]int]{changed(changed(lists[1], other, -x), i, x), api.ErrRange}, tried[[]int]{repeated(n, x), api.ErrRange})
		}
		l = append(l, tooMuch(n, i, c)...)
	}
	return l
}

// tooMuch are lists of valid parts which are too much together; part i is a reason for it.
func tooMuch(n int, i int, c int) []tried[[]int] {
	var l []tried[[]int]
	if c < heavy {
		l = append(l, tried[[]int]{only(n, i, c+1), api.ErrFull}, tried[[]int]{only(n, i, heavy), api.ErrFull}, tried[[]int]{changed(repeated(n, c/n), i, c/n+c%n+1), api.ErrFull})
	}
	if n > 1 {
		for _, more := range ints(1, 2, heavy) {
			l = append(l, tried[[]int]{changed(only(n, i, c), (i+1)%n, more), api.ErrFull}, tried[[]int]{changed(repeated(n, more), i, c), api.ErrFull})
		}
		l = append(l, tried[[]int]{repeated(n, heavy), api.ErrFull}, tried[[]int]{changed(repeated(n, c/n), i, c/n+c%n+1), api.ErrFull})
	}
	return l
}

func badCounts() []tried[api.Chest] {
	l := []tried[api.Chest]{{of(9), api.ErrKind}, {api.Chest{Cap: 9, Parts: ints()}, api.ErrKind}, {api.Chest{Cap: 9, Parts: repeated(3, 1)[:0]}, api.ErrKind}}
	for _, count := range ints(most+1, most+2, 2*most, 256, 257, 512, 513, 65536, 65537) {
		for _, c := range ints(1, 9, heavy) {
			for _, x := range ints(0, 1, heavy, -1, heavy+1, least, great, 1<<62) {
				l = append(l, tried[api.Chest]{of(c, repeated(count, x)...), api.ErrKind})
			}
		}
	}
	return l
}

func badCapacities() []tried[api.Chest] {
	l := []tried[api.Chest]{{api.Chest{}, api.ErrRange}, {api.Chest{Parts: ints()}, api.ErrRange}}
	for _, c := range outside(1, heavy) {
		for _, n := range ints(0, 1, 2, most, most+1, 65537) {
			for _, x := range ints(0, 1, heavy, -1, heavy+1, great) {
				l = append(l, tried[api.Chest]{of(c, repeated(n, x)...), api.ErrRange})
			}
		}
	}
	return l
}

// refused are chests that are refused.
func refused() []tried[api.Chest] {
	var l []tried[api.Chest]
	for _, n := range lengths() {
		for _, c := range ints(1, 9, 1000, heavy-1, heavy) {
			for _, parts := range badParts(n, c) {
				l = append(l, tried[api.Chest]{of(c, parts.x...), parts.e})
			}
		}
	}
	return slices.Concat(l, badCounts(), badCapacities())
}

// several are some of the refused chests, with every error.
func several() []tried[api.Chest] {
	return []tried[api.Chest]{
		{api.Chest{}, api.ErrRange}, {of(0, 0, 0), api.ErrRange}, {of(-1, 0, 0), api.ErrRange}, {of(heavy+1, 0, 0), api.ErrRange}, {of(least, 1, 1), api.ErrRange}, {of(great, 1, 1), api.ErrRange}, {of(0, 5), api.ErrRange},
		{of(5), api.ErrKind}, {of(5, repeated(most+1, 0)...), api.ErrKind}, {of(5, repeated(most+1, -1)...), api.ErrKind},
		{of(5, -1, 0), api.ErrRange}, {of(5, 0, -1), api.ErrRange}, {of(5, heavy+1, 0), api.ErrRange}, {of(5, 0, great), api.ErrRange}, {of(5, least, 0), api.ErrRange}, {of(5, least, least), api.ErrRange}, {of(5, 6, -1), api.ErrRange}, {of(5, -1), api.ErrRange}, {of(heavy, heavy, -1), api.ErrRange},
		{of(5, 6, 0), api.ErrFull}, {of(5, 3, 3), api.ErrFull}, {of(5, heavy, heavy), api.ErrFull}, {of(heavy, heavy, 1), api.ErrFull}, {of(5, 6), api.ErrFull},
	}
}

// accepted are chests with two parts, full, empty and neither.
func accepted() []tried[api.Chest] {
	return []tried[api.Chest]{{of(100, 10, 5), api.OK}, {of(15, 10, 5), api.OK}, {of(9, 0, 0), api.OK}, {of(heavy, heavy, 0), api.OK}, {of(1, 0, 1), api.OK}}
}

// P18.1

func TestNewRefuses(t *testing.T) {
	for _, n := range append(outside(1, most), 0, 1, 2, most-1, most, 1<<32, 1<<32+1) {
		for _, c := range append(outside(1, heavy), 0, 1, heavy) {
			want := api.OK
			if n < 1 || n > most {
				want = api.ErrKind
			} else if c < 1 || c > heavy {
				want = api.ErrRange
			}
			if x, e := chest.New(n, c); e != want || e != api.OK && !same(x, api.Chest{}) {
				t.Errorf("New(%d, %d) = %v, %d, not %d", n, c, x, e, want)
			}
		}
	}
}

// P18.2: every function with a chest returns its error, whatever comes behind.

func TestCheckRefuses(t *testing.T) {
	for _, c := range refused() {
		if e := testLevel(t, c.x); e != c.e {
			t.Fatalf("Check(%v) = %d, not %d", c.x, e, c.e)
		}
		_, fill := chest.Fill(c.x, nil)
		_, _, draw := chest.Draw(c.x, -1)
		_, _, pour := chest.Pour(c.x, api.Chest{}, -1)
		_, _, second := chest.Pour(of(9, 0, 0), c.x, -1)
		_, rate := chest.Rate(c.x, -1)
		for _, e := range []api.Errno{fill, draw, pour, second, rate} {
			if e != c.e {
				t.Fatalf("the errors for %v are %d, %d, %d, %d and %d, not %d", c.x, fill, draw, pour, second, rate, c.e)
			}
		}
	}
}

func TestFillRefuses(t *testing.T) {
	masses := []tried[[]int]{{ints(0, 0), api.OK}, {ints(1, 2), api.OK}, {ints(85, 0), api.OK}, {ints(85, 1), api.OK}, {ints(heavy, heavy), api.OK}}
	for _, l := range [][]int{nil, ints(), ints(1), ints(-1), ints(1, 1, 1), ints(0, heavy+1, 0), repeated(most, 1), repeated(most+1, -1), repeated(65537, great)} {
		masses = append(masses, tried[[]int]{l, api.ErrKind})
	}
	for _, mass := range outside(0, heavy) {
		for _, l := range [][]int{ints(mass, 0), ints(0, mass), ints(mass, heavy), ints(heavy, mass), ints(mass, mass), ints(mass, -mass), ints(1-mass, mass)} {
			masses = append(masses, tried[[]int]{l, api.ErrRange})
		}
	}
	for _, c := range append(several(), accepted()...) {
		for _, m := range masses {
			want := first(c.e, m.e)
			if full, e := chest.Fill(c.x, m.x); want != api.OK && (e != want || !same(full, api.Chest{})) {
				t.Fatalf("Fill(%v, %v) = %v, %d, not %d", c.x, m.x, full, e, want)
			}
			testFill(t, c.x, m.x)
		}
	}
}

// A mass is refused in each place, with any other masses.
func TestFillRefusesEachMass(t *testing.T) {
	for _, n := range lengths() {
		for i := range n {
			for _, mass := range outside(0, heavy) {
				for _, other := range ints(0, 1, heavy) {
					c, m := of(1000, repeated(n, 7)...), changed(repeated(n, other), i, mass)
					if full, e := chest.Fill(c, m); e != api.ErrRange || !same(full, api.Chest{}) {
						t.Fatalf("Fill(%v, %v) = %v, %d", c, m, full, e)
					}
				}
			}
		}
		for length := range 2 * most {
			if length != n {
				if full, e := chest.Fill(of(1000, repeated(n, 7)...), make([]int, length)); e != api.ErrKind || !same(full, api.Chest{}) {
					t.Fatalf("Fill of %d parts with %d masses: %v, %d", n, length, full, e)
				}
			}
		}
	}
}

func TestDrawRefuses(t *testing.T) {
	masses := []tried[int]{{0, api.OK}, {1, api.OK}, {16, api.OK}, {heavy, api.OK}}
	for _, mass := range outside(0, heavy) {
		masses = append(masses, tried[int]{mass, api.ErrRange})
	}
	for _, c := range append(several(), accepted()...) {
		for _, m := range masses {
			want := first(c.e, m.e)
			left, taken, e := chest.Draw(c.x, m.x)
			if want != api.OK && (e != want || !same(left, api.Chest{}) || len(taken) > 0) {
				t.Fatalf("Draw(%v, %d) = %v, %v, %d, not %d", c.x, m.x, left, taken, e, want)
			}
			testDraw(t, c.x, m.x)
		}
	}
}

func TestDrawOfTooMuch(t *testing.T) {
	for _, n := range lengths() {
		for _, c := range chests(n) {
			level := sum(c.Parts)
			for _, mass := range ints(level+1, level+2, c.Cap, c.Cap+1, heavy) {
				if mass <= level || mass > heavy {
					continue
				}
				if left, taken, e := chest.Draw(c, mass); e != api.ErrStock || !same(left, api.Chest{}) || len(taken) > 0 {
					t.Fatalf("Draw(%v, %d) = %v, %v, %d", c, mass, left, taken, e)
				}
			}
		}
	}
}

func TestPourRefuses(t *testing.T) {
	others := append(several(), tried[api.Chest]{of(9, 0), api.ErrKind}, tried[api.Chest]{of(1, 1), api.ErrKind}, tried[api.Chest]{of(9, repeated(most, 1)...), api.ErrKind})
	for _, a := range append(several(), accepted()...) {
		for _, b := range append(others, accepted()...) {
			for _, mass := range append(outside(0, heavy), 0, 1, 2, 16, heavy) {
				want := first(a.e, b.e)
				if want == api.OK && !isMass(mass) {
					want = api.ErrRange
				}
				left, full, e := chest.Pour(a.x, b.x, mass)
				if want != api.OK && (e != want || !same(left, api.Chest{}) || !same(full, api.Chest{})) {
					t.Fatalf("Pour(%v, %v, %d) = %v, %v, %d, not %d", a.x, b.x, mass, left, full, e, want)
				}
				testPour(t, a.x, b.x, mass)
			}
		}
	}
}

func TestRateRefuses(t *testing.T) {
	kinds := []tried[int]{{0, api.OK}, {1, api.OK}}
	for _, kind := range outside(0, 1) {
		kinds = append(kinds, tried[int]{kind, api.ErrNone})
	}
	for _, c := range append(several(), accepted()...) {
		for _, kind := range kinds {
			want := first(c.e, kind.e)
			if rate, e := chest.Rate(c.x, kind.x); want != api.OK && (e != want || rate != 0) {
				t.Fatalf("Rate(%v, %d) = %d, %d, not %d", c.x, kind.x, rate, e, want)
			}
			testRate(t, c.x, kind.x)
		}
	}
}

// roomy is a chest whose parts are in memory that goes on behind them.
func roomy(c int, l ...int) api.Chest {
	return of(c, append(slices.Grow([]int(nil), len(l)+3), l...)...)
}

// testApart writes to all the memory of lists: none of it belongs to two of them.
func testApart(t *testing.T, name string, lists ...[]int) {
	t.Helper()
	for i, l := range lists {
		l = l[:cap(l)]
		for k := range l {
			l[k] = -i
		}
	}
	for i, l := range lists {
		if slices.ContainsFunc(l[:cap(l)], func(n int) bool { return n != -i }) {
			t.Fatalf("%s: lists share memory", name)
		}
	}
}

// P18.3 to P18.7: results are new memory.
func TestMemoryOfResults(t *testing.T) {
	for _, n := range lengths() {
		for _, mass := range ints(0, 1, 5, 7*n) {
			parts := repeated(n, 7)
			x, _ := chest.New(n, 9)
			y, _ := chest.New(n, 9)
			testApart(t, "New", x.Parts, y.Parts)
			c, m := roomy(1000, parts...), cut(n, mass, random())
			full, e := chest.Fill(c, m)
			testApart(t, "Fill", c.Parts, m, full.Parts)
			c = roomy(1000, parts...)
			left, taken, f := chest.Draw(c, mass)
			testApart(t, "Draw", c.Parts, left.Parts, taken)
			a, b := roomy(1000, parts...), roomy(2000, parts...)
			left, full, g := chest.Pour(a, b, mass)
			testApart(t, "Pour", a.Parts, b.Parts, left.Parts, full.Parts)
			a = roomy(1000, parts...)
			left, full, h := chest.Pour(a, a, mass)
			testApart(t, "Pour", a.Parts, left.Parts, full.Parts)
			if first(e, f, g, h) != api.OK {
				t.Fatalf("the errors for %d are %d, %d, %d and %d", mass, e, f, g, h)
			}
		}
	}
}

// What lies behind the parts and the masses stays as it is.
func TestMemoryBehindArguments(t *testing.T) {
	for _, mass := range ints(0, 1, 4, 15, 16, 86) {
		memory, masses := ints(10, 5, -8, -9), ints(mass, 0, -5, -6)
		c, m := of(100, memory[:2]...), masses[:2]
		chest.New(2, mass)
		chest.Check(c)
		chest.Level(c)
		chest.Fill(c, m)
		chest.Draw(c, mass)
		chest.Pour(c, c, mass)
		chest.Rate(c, mass)
		if !slices.Equal(memory, ints(10, 5, -8, -9)) || !slices.Equal(masses, ints(mass, 0, -5, -6)) {
			t.Fatalf("the memory is changed to %v and %v", memory, masses)
		}
	}
}

// Chests and masses may lie in the same memory, also shifted.
func TestArgumentsThatShareMemory(t *testing.T) {
	for shift := range 4 {
		memory := ints(3, 1, 4, 1, 5, 9, 2, 6)
		a, b := api.Chest{Cap: 100, Parts: memory[:4]}, api.Chest{Cap: 50, Parts: memory[shift : shift+4]}
		testFill(t, a, b.Parts)
		testFill(t, b, a.Parts)
		for mass := range 12 {
			testPour(t, a, b, mass)
			testPour(t, b, a, mass)
		}
		if !slices.Equal(memory, ints(3, 1, 4, 1, 5, 9, 2, 6)) {
			t.Fatalf("the memory is changed to %v", memory)
		}
	}
}
