package fibre_test

import (
	"slices"
	"strings"
	"testing"

	"papermill/api"
	"papermill/fibre"
)

// P16.1

func TestCheckAccepts(t *testing.T) {
	lists := [][]api.Fibre{
		many(most), kinds(kind("a", 0)), kinds(kind("Z", dear)), kinds(kind(strings.Repeat("x", api.MaxName), dear)),
		// Names that differ in case, in length, or in one byte only, and equal costs.
		kinds(kind("pine", 7), kind("Pine", 7), kind("PINE", 7), kind("pinE", 7), kind("pin", 7), kind("pines", 7), kind("p", 7), kind("p.", 7)),
		kinds(kind("a-", 0), kind("a_", 0), kind("a.", 0), kind("a0", 0), kind("a9", 0), kind("aA", 0), kind("az", 0), kind("aZ", 0)),
	}
	for _, n := range lengths() {
		lists = append(lists, named(n), many(n))
		reversed := named(n)
		slices.Reverse(reversed)
		lists = append(lists, reversed)
	}
	for _, l := range lists {
		if e := fibre.Check(l); e != api.OK {
			t.Errorf("Check(%v) = %d", l, e)
		}
	}
}

// Each byte stands at several places of names of several lengths, whose other bytes are of all the sorts that an identifier may have.
func TestCheckOfNames(t *testing.T) {
	pattern := strings.Repeat("aZ09-_.bzA", 4)
	for _, length := range ints(1, 2, 3, 16, api.MaxName-1, api.MaxName, api.MaxName+1) {
		for _, at := range ints(0, 1, length/2, length-2, length-1) {
			if at < 0 || at >= length {
				continue
			}
			for b := range 256 {
				name := []byte(pattern[:length])
				name[at] = byte(b)
				k := kind(string(name), 1)
				for _, l := range [][]api.Fibre{kinds(k), kinds(k, kind("pp", 0), kind("qq", 0)), kinds(kind("pp", 0), k, kind("qq", 0)), kinds(kind("pp", 0), kind("qq", 0), k)} {
					if e := fibre.Check(l); e != kindError(k) {
						t.Fatalf("Check(%v) = %d, not %d", l, e, kindError(k))
					}
				}
			}
		}
	}
}

func TestCheckOfCosts(t *testing.T) {
	for _, cost := range append(outside(dear), 0, 1, 2, 999999, 1000000, dear/2, dear-2, dear-1, dear) {
		for _, n := range lengths() {
			for i := range n {
				k := named(n)[i]
				k.Cost = cost
				if e := fibre.Check(changed(named(n), i, k)); e != kindError(k) {
					t.Fatalf("Check with the cost %d = %d", cost, e)
				}
			}
		}
	}
}

// P16.2

func TestRecipeAccepts(t *testing.T) {
	for _, n := range lengths() {
		for _, r := range recipes(n) {
			if e := fibre.Recipe(r, n); e != api.OK {
				t.Fatalf("Recipe(%v, %d) = %d", r, n, e)
			}
		}
	}
}

func TestRecipeExamples(t *testing.T) {
	for _, c := range []struct {
		r     []int
		kinds int
		e     api.Errno
	}{
		{ints(500, 499), 2, api.ErrRate}, {ints(500, 499), 3, api.ErrKind}, {ints(500, 499), 1, api.ErrKind}, {ints(500, 500), 2, api.OK}, {ints(500, 501), 2, api.ErrRate}, {ints(333, 333, 334), 3, api.OK}, {ints(333, 333, 333), 3, api.ErrRate},
		{ints(1000), 1, api.OK}, {ints(999), 1, api.ErrRate}, {ints(1001), 1, api.ErrRange}, {ints(0), 1, api.ErrRate}, {ints(-1), 1, api.ErrRange}, {ints(1000, 0), 2, api.OK}, {ints(0, 1000), 2, api.OK}, {ints(1001, -1), 2, api.ErrRange}, {ints(1001, 0), 2, api.ErrRange}, {ints(-1, 1001), 2, api.ErrRange}, {ints(1000, 1000), 2, api.ErrRate}, {ints(1000, 1000, -1000), 3, api.ErrRange},
		{filled(most, 125), most, api.OK}, {filled(most, 125), most - 1, api.ErrKind}, {filled(most, 125), most + 1, api.ErrKind}, {only(most, most-1, 1000), most, api.OK}, {filled(10, 100), 10, api.ErrKind}, {only(most+1, 0, 1000), most + 1, api.ErrKind}, {nil, 0, api.ErrKind}, {nil, 1, api.ErrKind}, {nil, -1, api.ErrKind}, {ints(1000), 0, api.ErrKind}, {ints(1000), -1, api.ErrKind},
	} {
		if e := fibre.Recipe(c.r, c.kinds); e != c.e {
			t.Errorf("Recipe(%v, %d) = %d, not %d", c.r, c.kinds, e, c.e)
		}
	}
}

// All short lists are recipes or not as their elements and their sum say.
func TestRecipeOfAllShortLists(t *testing.T) {
	elements := ints(-1000, -1, 0, 1, 2, 333, 334, 499, 500, 501, 998, 999, 1000, 1001, 2000)
	check := func(r []int) {
		want := api.OK
		if slices.Min(r) < 0 || slices.Max(r) > 1000 {
			want = api.ErrRange
		} else if sum(r) != 1000 {
			want = api.ErrRate
		}
		if e := fibre.Recipe(r, len(r)); e != want {
			t.Fatalf("Recipe(%v) = %d, not %d", r, e, want)
		}
	}
	for _, a := range elements {
		check(ints(a))
		for _, b := range elements {
			check(ints(a, b))
			for _, c := range elements {
				check(ints(a, b, c))
			}
		}
	}
}

func TestPartsAccepts(t *testing.T) {
	for _, n := range lengths() {
		for _, m := range append(loads(n), recipes(n)...) {
			if e := fibre.Parts(m, n); e != api.OK {
				t.Fatalf("Parts(%v, %d) = %d", m, n, e)
			}
		}
		for i := range n {
			for _, mass := range amounts() {
				if e := fibre.Parts(changed(filled(n, 3), i, mass), n); e != api.OK {
					t.Fatalf("Parts with the mass %d = %d", mass, e)
				}
			}
		}
	}
}

// P16.3

func TestMassesExamples(t *testing.T) {
	for _, c := range []struct {
		r    []int
		mass int
		m    []int
	}{
		{ints(333, 333, 334), 10, ints(3, 3, 4)}, {ints(334, 333, 333), 10, ints(4, 3, 3)}, {ints(1000), 0, ints(0)}, {ints(1000), 1, ints(1)}, {ints(1000), heavy, ints(heavy)}, {ints(400, 600), 0, ints(0, 0)}, {ints(1000, 0), 7, ints(7, 0)}, {ints(0, 1000, 0), heavy, ints(0, heavy, 0)},
		// Equal remainders: what remains goes to the first ones.
		{ints(500, 500), 1, ints(1, 0)}, {ints(500, 500), 3, ints(2, 1)}, {ints(250, 250, 250, 250), 3, ints(1, 1, 1, 0)}, {ints(250, 250, 250, 250), 6, ints(2, 2, 1, 1)}, {filled(most, 125), 1, only(most, 0, 1)}, {filled(most, 125), 7, changed(filled(most, 1), most-1, 0)}, {filled(most, 125), 999, changed(filled(most, 125), most-1, 124)}, {ints(250, 750), 2, ints(1, 1)}, {ints(750, 250), 2, ints(2, 0)}, {ints(0, 500, 0, 500), 1, ints(0, 1, 0, 0)},
		// The larger remainder comes first, wherever it stands.
		{ints(499, 501), 1, ints(0, 1)}, {ints(501, 499), 1, ints(1, 0)}, {ints(100, 900), 1, ints(0, 1)}, {ints(100, 200, 700), 2, ints(0, 1, 1)}, {ints(100, 200, 700), 3, ints(0, 1, 2)}, {ints(1, 999), 500, ints(1, 499)}, {ints(999, 1), 500, ints(500, 0)}, {ints(1, 999), 499, ints(0, 499)}, {ints(1, 999), 501, ints(1, 500)},
		{ints(1, 999), 999, ints(1, 998)}, {ints(1, 999), 1000, ints(1, 999)}, {ints(123, 456, 421), 1000, ints(123, 456, 421)}, {ints(125, 875), heavy, ints(heavy/8, heavy/8*7)}, {ints(500, 500), heavy - 1, ints(heavy/2, heavy/2-1)}, {ints(333, 333, 334), heavy, ints(366137372050, 366137372049, 367236883677)},
	} {
		if m, e := fibre.Masses(c.r, c.mass); !slices.Equal(m, c.m) || e != api.OK {
			t.Errorf("Masses(%v, %d) = %v, %d, not %v", c.r, c.mass, m, e, c.m)
		}
	}
}

// masses fails unless there is no error.
func masses(t *testing.T, r []int, mass int) []int {
	t.Helper()
	m, e := fibre.Masses(r, mass)
	if e != api.OK || len(m) != len(r) {
		t.Fatalf("Masses(%v, %d) = %v, %d", r, mass, m, e)
	}
	return m
}

func TestMasses(t *testing.T) {
	for _, n := range lengths() {
		for _, r := range recipes(n) {
			for _, mass := range amounts() {
				if m, want := masses(t, r, mass), divided(r, mass); !slices.Equal(m, want) {
					t.Fatalf("Masses(%v, %d) = %v, not %v", r, mass, m, want)
				}
			}
		}
	}
}

func total(t *testing.T, m []int) int {
	t.Helper()
	s, e := fibre.Total(m)
	if e != api.OK {
		t.Fatalf("Total(%v) = %d, %d", m, s, e)
	}
	return s
}

func TestTotal(t *testing.T) {
	for _, c := range []struct {
		m []int
		s int
	}{
		{ints(0), 0}, {ints(1), 1}, {ints(heavy), heavy}, {ints(1, 2, 3), 6}, {ints(0, 0, 9), 9}, {filled(most, 0), 0}, {filled(most, 1), most}, {filled(most, heavy), 8796093022208}, {changed(filled(most, heavy), 3, heavy-1), 8796093022207}, {filled(2, heavy), 1 << 41},
	} {
		if s := total(t, c.m); s != c.s {
			t.Errorf("Total(%v) = %d, not %d", c.m, s, c.s)
		}
	}
	for _, n := range lengths() {
		for _, m := range loads(n) {
			if s := total(t, m); s != sum(m) {
				t.Fatalf("Total(%v) = %d", m, s)
			}
		}
	}
}

// P16.4

// added is the definition, kind by kind.
func added(a []int, b []int) ([]int, api.Errno) {
	var l []int
	for i := range a {
		l = append(l, a[i]+b[i])
	}
	if slices.Max(l) > heavy {
		return nil, api.ErrOverflow
	}
	return l, api.OK
}

func TestAdd(t *testing.T) {
	for _, n := range lengths() {
		for _, a := range loads(n) {
			for _, b := range loads(n) {
				want, wantError := added(a, b)
				if l, e := fibre.Add(a, b); !slices.Equal(l, want) || e != wantError {
					t.Fatalf("Add(%v, %v) = %v, %d, not %v, %d", a, b, l, e, want, wantError)
				}
			}
		}
	}
}

func TestAddExamples(t *testing.T) {
	for _, c := range []struct {
		a, b, s []int
		e       api.Errno
	}{
		{ints(1, 2), ints(3, 4), ints(4, 6), api.OK}, {ints(0), ints(0), ints(0), api.OK}, {ints(heavy), ints(0), ints(heavy), api.OK}, {ints(heavy - 1), ints(1), ints(heavy), api.OK}, {ints(heavy - 1), ints(2), nil, api.ErrOverflow}, {ints(heavy), ints(1), nil, api.ErrOverflow}, {ints(heavy), ints(heavy), nil, api.ErrOverflow}, {ints(heavy / 2), ints(heavy / 2), ints(heavy), api.OK}, {ints(heavy / 2), ints(heavy/2 + 1), nil, api.ErrOverflow},
		{filled(most, heavy/2), filled(most, heavy/2), filled(most, heavy), api.OK}, {filled(most, heavy), filled(most, 0), filled(most, heavy), api.OK}, {ints(heavy, 0), ints(0, heavy), ints(heavy, heavy), api.OK}, {ints(heavy, 0), ints(1, heavy), nil, api.ErrOverflow}, {ints(heavy, 1), ints(0, heavy), nil, api.ErrOverflow}, {ints(0, heavy, 0), ints(0, 1, 0), nil, api.ErrOverflow},
		// An invalid mass together with a sum that is too great, or with another invalid mass.
		{ints(heavy, -1), ints(heavy, 0), nil, api.ErrRange}, {ints(heavy, 0), ints(heavy, -1), nil, api.ErrRange}, {ints(heavy + 1), ints(heavy), nil, api.ErrRange}, {ints(heavy), ints(heavy + 1), nil, api.ErrRange}, {ints(heavy + 1), ints(-1), nil, api.ErrRange}, {ints(-1), ints(1), nil, api.ErrRange}, {ints(1), ints(-1), nil, api.ErrRange}, {ints(great), ints(great), nil, api.ErrRange}, {ints(least), ints(least), nil, api.ErrRange},
		{ints(1), ints(1, 2), nil, api.ErrKind}, {ints(1, 2), ints(1), nil, api.ErrKind}, {nil, ints(1), nil, api.ErrKind}, {ints(1), nil, nil, api.ErrKind}, {nil, nil, nil, api.ErrKind}, {ints(-1), ints(-1, -1), nil, api.ErrKind}, {ints(heavy, heavy), ints(heavy), nil, api.ErrKind}, {filled(most, 0), filled(most+1, 0), nil, api.ErrKind}, {filled(most+1, 0), filled(most, 0), nil, api.ErrKind}, {filled(most+1, 0), filled(most+1, 0), nil, api.ErrKind},
	} {
		if l, e := fibre.Add(c.a, c.b); !slices.Equal(l, c.s) || e != c.e {
			t.Errorf("Add(%v, %v) = %v, %d, not %v, %d", c.a, c.b, l, e, c.s, c.e)
		}
	}
}

// P16.5

func expectCost(t *testing.T, l []api.Fibre, m []int, want int) {
	t.Helper()
	wantError := api.OK
	if want > money {
		want, wantError = 0, api.ErrOverflow
	}
	if s, e := fibre.Cost(l, m); s != want || e != wantError {
		t.Fatalf("Cost(%v, %v) = %d, %d, not %d, %d", l, m, s, e, want, wantError)
	}
}

// over is any number above MaxMoney.
const over = money + 1

func TestCostExamples(t *testing.T) {
	for _, c := range []struct {
		cost, mass, cents int
	}{
		{1000, 500, 0}, {1000, 1500, 2}, {1000, 501, 1}, {1000, 499, 0}, {1000, 1499, 1}, {1000, 1501, 2}, {1000, 2500, 2}, {1000, 2501, 3}, {1000, 3500, 4}, {1000, 1000, 1},
		{1, 500000, 0}, {1, 499999, 0}, {1, 500001, 1}, {1, 1499999, 1}, {1, 1500000, 2}, {1, 1500001, 2}, {1, 2499999, 2}, {1, 2500000, 2}, {1, 2500001, 3}, {500000, 1, 0}, {500001, 1, 1}, {499999, 1, 0}, {1500000, 1, 2}, {2500000, 1, 2}, {2500001, 1, 3}, {1499999, 1, 1},
		{0, 0, 0}, {0, 1, 0}, {0, heavy, 0}, {dear, 0, 0}, {dear, 1, 1000}, {60000, 1000000, 60000}, {1, heavy, 1099512}, {1000000, heavy, over}, {900000, heavy, 989560464998}, {909494, heavy, 999999228393}, {909495, heavy, over}, {dear, heavy, over},
		{dear, dear, money}, {dear, dear + 1, over}, {dear, dear - 1, money - 1000}, {1000000, money, money}, {1000000, money - 1, money - 1}, {1000000, money + 1, over},
		// Just above and below halves near the limit: the product of 1500000 and 666666666667 is half a cent above it.
		{1500000, 666666666667, money}, {1500000, 666666666666, money - 1}, {3, 1 << 39, 1649267}, {500000, heavy, 549755813888}, {500000, heavy - 1, 549755813888}, {500000, heavy - 3, 549755813886},
	} {
		expectCost(t, kinds(kind("a", c.cost)), ints(c.mass), c.cents)
		expectCost(t, kinds(kind("a", dear), kind("b", c.cost), kind("c", dear-1)), ints(0, c.mass, 0), c.cents)
		expectCost(t, append(named(most-1), kind("last", c.cost)), only(most, most-1, c.mass), c.cents)
	}
}

// Each kind is rounded on its own, and only the sum must be at most MaxMoney.
func TestCostOfSeveralKinds(t *testing.T) {
	l := kinds(kind("a", 1000), kind("b", 1000), kind("c", dear), kind("d", 1000000))
	for _, c := range []struct {
		m     []int
		cents int
	}{
		{ints(500, 500, 0, 0), 0}, {ints(1500, 1500, 0, 0), 4}, {ints(500, 1500, 0, 0), 2}, {ints(501, 501, 0, 0), 2}, {ints(499, 499, 0, 0), 0}, {ints(0, 0, 0, 0), 0},
		{ints(0, 0, dear, 0), money}, {ints(0, 0, dear, 1), over}, {ints(500, 500, dear, 0), money}, {ints(501, 0, dear, 0), over}, {ints(0, 501, dear, 0), over}, {ints(1499, 0, dear-1, 999), money}, {ints(1500, 0, dear-1, 999), over}, {ints(0, 0, dear-1, 1000), money}, {ints(0, 0, dear-1, 1001), over}, {ints(0, 0, 0, money), money}, {ints(0, 501, 0, money), over}, {ints(0, 500, 0, money), money},
		{ints(0, 0, heavy, 0), over}, {ints(heavy, heavy, heavy, heavy), over}, {ints(heavy, heavy, 0, 0), 2199023256},
	} {
		for by := range len(l) {
			expectCost(t, slices.Concat(l[by:], l[:by]), turned(c.m, by), c.cents)
		}
	}
}

// The sum of the greatest costs of all kinds does not wrap around, and costs of exactly MaxMoney are accepted.
func TestCostOfGreatSums(t *testing.T) {
	for _, n := range lengths() {
		l := costly(n)
		expectCost(t, l, filled(n, heavy), over)
		even := filled(n, dear/n)
		even[0] += dear % n
		expectCost(t, l, even, money)
		for i := range n {
			expectCost(t, l, changed(even, i, even[i]+1), over)
			expectCost(t, l, changed(even, i, even[i]-1), money-1000)
			expectCost(t, l, only(n, i, heavy), over)
			expectCost(t, l, only(n, i, dear), money)
		}
	}
}

func TestCost(t *testing.T) {
	for _, n := range lengths() {
		for by := range most {
			all := named(most)
			l := slices.Concat(all[by:], all[:by])[:n]
			for _, m := range loads(n) {
				expectCost(t, l, m, costs(l, m))
			}
		}
	}
}

// Products that lie at, just below and just above halves, with the even number below and above.
func TestCostAtHalves(t *testing.T) {
	for _, k := range ints(1, 3, 5, 7, 9, 101, 999, 1001, 99999, 100001) {
		for d := -2; d <= 2; d++ {
			expectCost(t, kinds(kind("a", 1)), ints(500000*k+d), cents(1, 500000*k+d))
			expectCost(t, kinds(kind("a", 500*k)), ints(1000+d), cents(500*k, 1000+d))
			if cost := 500000*k + d; cost <= dear {
				expectCost(t, kinds(kind("a", cost)), ints(1), cents(cost, 1))
				expectCost(t, kinds(kind("a", cost), kind("b", cost)), ints(1, 3), cents(cost, 1)+cents(cost, 3))
			}
		}
	}
}

// P16.6

func expectNear(t *testing.T, m []int, r []int, tol int, want bool) {
	t.Helper()
	if ok, e := fibre.Near(m, r, tol); ok != want || e != api.OK {
		t.Fatalf("Near(%v, %v, %d) = %t, %d, not %t", m, r, tol, ok, e, want)
	}
}

func TestNearExamples(t *testing.T) {
	for _, c := range []struct {
		m, r []int
		tol  int // the least tolerance with which they are near
	}{
		{ints(30, 70), ints(280, 720), 20}, {ints(30, 70), ints(320, 680), 20}, {ints(70, 30), ints(720, 280), 20}, {ints(1), ints(1000), 0}, {ints(heavy), ints(1000), 0}, {ints(1, 0), ints(1000, 0), 0}, {ints(0, 1), ints(1000, 0), 1000}, {ints(0, heavy), ints(1000, 0), 1000}, {ints(1, 1), ints(500, 500), 0}, {ints(1, 1), ints(501, 499), 1}, {ints(1, 1), ints(0, 1000), 500}, {ints(1, 2), ints(333, 667), 1}, {ints(1, 2), ints(334, 666), 1}, {ints(1, 2), ints(332, 668), 2}, {ints(0, 0, 1), ints(0, 1000, 0), 1000},
		{ints(250, 250, 500), ints(250, 250, 500), 0}, {ints(251, 250, 499), ints(250, 250, 500), 1}, {ints(250, 249, 501), ints(250, 250, 500), 1}, {ints(240, 255, 505), ints(250, 250, 500), 10}, {ints(255, 240, 505), ints(250, 250, 500), 10}, {ints(245, 245, 510), ints(250, 250, 500), 10}, {ints(260, 245, 495), ints(250, 250, 500), 10}, {ints(245, 260, 495), ints(250, 250, 500), 10}, {ints(255, 255, 490), ints(250, 250, 500), 10},
		{filled(most, heavy), filled(most, 125), 0}, {filled(most, heavy), only(most, 0, 1000), 875}, {filled(most, heavy), only(most, most-1, 1000), 875}, {changed(filled(most, heavy), 0, heavy-1), only(most, 0, 1000), 876}, {changed(filled(most, heavy), 0, heavy-1), filled(most, 125), 1}, {only(most, 5, heavy), only(most, 5, 1000), 0}, {only(most, 5, heavy), only(most, 2, 1000), 1000}, {only(most, 5, heavy), filled(most, 125), 875}, {filled(2, heavy), ints(500, 500), 0}, {ints(heavy, heavy-1), ints(500, 500), 1}, {ints(heavy-1, heavy), ints(500, 500), 1},
	} {
		for _, tol := range ints(0, c.tol-2, c.tol-1, c.tol, c.tol+1, c.tol+100, 999, 1000) {
			if tol >= 0 && tol <= 1000 {
				expectNear(t, c.m, c.r, tol, tol >= c.tol)
			}
		}
	}
}

// The mass of one kind is exactly as far from its part as is permitted, above and below, or a gram farther.
func TestNearAtTheTolerance(t *testing.T) {
	for _, n := range ints(2, 3, 4, 5, 6, 7, 8) {
		for i := range n {
			// The other kinds share the difference evenly.
			other := 100
			r := changed(filled(n, other), i, 1000-other*(n-1))
			for _, scale := range ints(1, 2, 999, 1000, 1<<29/5) {
				for _, d := range ints(n-1, 1-n, 7*(n-1), 7*(1-n)) {
					tol := max(d, -d)
					m := changed(filled(n, (other-d/(n-1))*scale), i, (r[i]+d)*scale)
					expectNear(t, m, r, tol, true)
					expectNear(t, m, r, tol-1, false)
					k := (i + 1) % n
					farther := changed(changed(m, i, m[i]+d/tol), k, m[k]-d/tol)
					expectNear(t, farther, r, tol, false)
					expectNear(t, farther, r, tol+1, true)
					nearer := changed(changed(m, i, m[i]-d/tol), k, m[k]+d/tol)
					expectNear(t, nearer, r, tol, true)
				}
			}
		}
	}
}

func TestNear(t *testing.T) {
	for _, n := range lengths() {
		for k, r := range recipes(n) {
			for j, m := range loads(n) {
				if sum(m) == 0 || n > 3 && (k+j)%5 > 0 {
					continue
				}
				for _, tol := range ints(0, 1, 2, 10, 125, 333, 500, 999, 1000) {
					expectNear(t, m, r, tol, isNear(m, r, tol))
				}
			}
		}
	}
}

func TestNearOfNoMass(t *testing.T) {
	for _, n := range lengths() {
		for _, r := range recipes(n) {
			for _, tol := range ints(0, 1, 500, 1000) {
				if ok, e := fibre.Near(make([]int, n), r, tol); ok || e != api.ErrEmpty {
					t.Fatalf("Near(0, %v, %d) = %t, %d", r, tol, ok, e)
				}
			}
		}
	}
}

// P16.7

func TestMassesOfARecipeAreItsParts(t *testing.T) {
	for _, n := range lengths() {
		for _, r := range recipes(n) {
			for _, mass := range amounts() {
				m := masses(t, r, mass)
				if sum(m) != mass || total(t, m) != mass {
					t.Fatalf("the masses of %d by %v add up to %d", mass, r, sum(m))
				}
				for i := range r {
					// In thousandths of a gram.
					d := 1000*m[i] - r[i]*mass
					if d >= 1000 || d <= -1000 || m[i] == 0 && r[i]*mass >= 1000 {
						t.Fatalf("mass %d of %d by %v is %d", i, mass, r, m[i])
					}
				}
			}
		}
	}
}

// P16.8

func TestSumsAndTheirTotals(t *testing.T) {
	for _, n := range lengths() {
		for _, a := range loads(n) {
			for _, b := range loads(n) {
				l, e := fibre.Add(a, b)
				k, f := fibre.Add(b, a)
				if !slices.Equal(l, k) || e != f {
					t.Fatalf("Add(%v, %v) = %v, %d, and the other way round %v, %d", a, b, l, e, k, f)
				}
				if e == api.OK && total(t, l) != total(t, a)+total(t, b) {
					t.Fatalf("the total of %v and %v is %d", a, b, total(t, l))
				}
			}
		}
	}
}

func TestErrorsOfSumsInTheOtherOrder(t *testing.T) {
	for _, n := range ints(1, 3, most) {
		for _, c := range refusedLoads(n) {
			for _, a := range loads(n)[:5] {
				l, e := fibre.Add(a, c.x)
				k, f := fibre.Add(c.x, a)
				if len(l) != 0 || len(k) != 0 || e != c.e || f != c.e {
					t.Fatalf("Add of %v and %v of %d = %d, and the other way round %d", a, brief(c.x), len(c.x), e, f)
				}
			}
		}
	}
}

// P16.9

func TestMassesAreNearTheirRecipe(t *testing.T) {
	for _, n := range lengths() {
		for _, r := range recipes(n) {
			for _, mass := range amounts() {
				if mass >= 1000 {
					expectNear(t, masses(t, r, mass), r, 1, true)
				}
			}
		}
	}
}

// Memory

// behind is what lies in the memory of an argument behind its end.
func behind() []int { return filled(2*most, -5) }

// roomy is a copy of l with room behind it.
func roomy(l []int) []int { return slices.Concat(l, behind())[:len(l)] }

// isKept reports whether l is still what roomy returned for kept.
func isKept(l []int, kept []int) bool {
	return slices.Equal(l[:len(kept)+2*most], slices.Concat(kept, behind()))
}

// spoil also writes to the room behind l, which belongs to a result as well.
func spoil(l []int) {
	l = l[:cap(l)]
	for i := range l {
		l[i] = -7
	}
}

// lists are masses and recipes that are valid, and some that are not.
func lists() [][]int {
	return [][]int{nil, {0}, {1000}, {7}, {heavy}, {-1}, {500, 500}, {333, 333, 334}, {0, 0, 0}, {1000, 0, 0}, {5, -1, 3}, {heavy, heavy, heavy}, filled(most, 125), filled(most, heavy), filled(most, heavy/2), filled(most+1, 0), filled(most+1, 1)}
}

func TestNumbersOfArgumentsAreNotChanged(t *testing.T) {
	for _, a := range lists() {
		for _, b := range lists() {
			x, y := roomy(a), roomy(b)
			fibre.Recipe(x, len(a))
			fibre.Parts(x, len(a))
			fibre.Total(x)
			l, _ := fibre.Masses(x, 1234)
			spoil(l)
			l, _ = fibre.Add(x, y)
			spoil(l)
			fibre.Cost(named(min(len(a), most)), x)
			fibre.Near(x, y, 17)
			if !isKept(x, a) || !isKept(y, b) {
				t.Fatalf("%v or %v is changed, or shares memory with a result", brief(a), brief(b))
			}
		}
		x := roomy(a)
		l, _ := fibre.Add(x, x)
		spoil(l)
		fibre.Near(x, x, 0)
		if !isKept(x, a) {
			t.Fatalf("%v is changed, or shares memory with a result", brief(a))
		}
	}
}

func TestKindsOfArgumentsAreNotChanged(t *testing.T) {
	cases := [][]api.Fibre{many(most + 1), changed(many(4), 2, kind("", -1)), changed(many(5), 4, many(1)[0])}
	for _, n := range lengths() {
		cases = append(cases, named(n))
	}
	for _, l := range cases {
		x := slices.Concat(l, many(most))[:len(l)]
		fibre.Check(x)
		fibre.Cost(x, filled(len(l), 1500))
		fibre.Cost(x, filled(len(l), heavy))
		if !slices.Equal(x[:len(l)+most], slices.Concat(l, many(most))) {
			t.Fatalf("%v is changed", l)
		}
	}
}

func TestResultsShareNoMemory(t *testing.T) {
	for _, n := range lengths() {
		a, b := filled(n, 3), filled(n, 4)
		for _, f := range []func() ([]int, api.Errno){
			func() ([]int, api.Errno) { return fibre.Masses(recipes(n)[0], 1234) },
			func() ([]int, api.Errno) { return fibre.Masses(only(n, n-1, 1000), 0) },
			func() ([]int, api.Errno) { return fibre.Add(a, b) },
			func() ([]int, api.Errno) { return fibre.Add(a, make([]int, n)) },
			func() ([]int, api.Errno) { return fibre.Add(make([]int, n), b) },
		} {
			l, _ := f()
			kept := slices.Clone(l)
			other, _ := f()
			spoil(other)
			again, _ := f()
			if !slices.Equal(l, kept) || !slices.Equal(again, kept) {
				t.Errorf("two results share memory: %v and %v are %v", l, again, kept)
			}
		}
	}
}
