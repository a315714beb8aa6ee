package fibre_test

import (
	"slices"
	"strings"
	"testing"

	"papermill/api"
	"papermill/fibre"
)

// tried is an argument, with the error that it has whatever the arguments behind it are.
type tried[T any] struct {
	x T
	e api.Errno
}

// first returns the first error, in the order in which the chapter lists them.
func first(l ...api.Errno) api.Errno {
	for _, e := range l {
		if e != api.OK {
			return e
		}
	}
	return api.OK
}

// invalid are kinds with each fault alone, and with both.
func invalid() []api.Fibre {
	var l []api.Fibre
	for _, name := range []string{"", strings.Repeat("a", api.MaxName+1), strings.Repeat("Z", api.MaxName+2), strings.Repeat("b", 300), "7", "9a", "-a", "_a", ".a", " a", "a ", "a b", "a/b", "a\x00", "\x00a", "a\n", "a:", "a@", "a[", "a`", "a{", "é", "aé", "a\x80", "a\xff", "\xffa", "木", "a\xe1"} {
		l = append(l, kind(name, 0), kind(name, 1000), kind(name, dear), kind(name, -1), kind(name, dear+1), kind(name, least), kind(name, great))
	}
	for _, cost := range outside(dear) {
		l = append(l, kind("a", cost), kind(strings.Repeat("x", api.MaxName), cost), kind("birch", cost))
	}
	return l
}

// samples are some of the invalid kinds, some of them with both faults.
func samples() []api.Fibre {
	return kinds(kind("", 5), kind("9a", dear+1), kind(strings.Repeat("a", api.MaxName+1), 0), kind("a\xff", -1), kind("c", -1), kind("d", dear+1), kind("p", least), kind("birch", great))
}

// refusedKinds are lists of kinds with every fault; among those of one length are faults at each place.
func refusedKinds() []tried[[]api.Fibre] {
	l := []tried[[]api.Fibre]{{nil, api.ErrEmpty}, {kinds(), api.ErrEmpty}, {named(3)[:0], api.ErrEmpty}}
	for _, n := range ints(most+1, most+2, 2*most, 100, 256, 257, 513, 65536, 65537) {
		l = append(l, tried[[]api.Fibre]{many(n), api.ErrFull}, tried[[]api.Fibre]{slices.Repeat(kinds(kind("", -1)), n), api.ErrFull}, tried[[]api.Fibre]{slices.Repeat(named(1), n), api.ErrFull})
		for _, k := range samples() {
			l = append(l, tried[[]api.Fibre]{changed(many(n), 0, k), api.ErrFull}, tried[[]api.Fibre]{changed(many(n), n-1, k), api.ErrFull})
		}
	}
	for _, n := range lengths() {
		for i := range n {
			for _, k := range invalid() {
				l = append(l, tried[[]api.Fibre]{changed(named(n), i, k), kindError(k)})
			}
			l = append(l, severalFaults(n, i)...)
		}
	}
	return l
}

// severalFaults are lists of n kinds of which the first one with a fault of its own is that at the index i, and lists with the name of kind i twice.
func severalFaults(n int, i int) []tried[[]api.Fibre] {
	var l []tried[[]api.Fibre]
	for later := i + 1; later < n; later++ {
		for _, a := range samples() {
			for _, b := range samples() {
				l = append(l, tried[[]api.Fibre]{changed(changed(named(n), i, a), later, b), kindError(a)})
			}
		}
		same := changed(named(n), later, kind(named(n)[i].Name, 77))
		l = append(l, tried[[]api.Fibre]{same, api.ErrTwice}, tried[[]api.Fibre]{changed(same, i, same[later]), api.ErrTwice}, tried[[]api.Fibre]{slices.Repeat(named(n)[i:i+1], n), api.ErrTwice})
		for at := range n {
			for _, k := range samples() {
				l = append(l, tried[[]api.Fibre]{changed(same, at, k), kindError(k)})
			}
		}
	}
	return l
}

// refusedNumbers are lists that are not n numbers from 0 to a limit.
func refusedNumbers(n int, valid []int, limit int) []tried[[]int] {
	var l []tried[[]int]
	for _, length := range ints(0, 1, 2, 3, 4, 5, 6, 7, 8, 9, 16, 257, 512, 513, 65537) {
		if length != n {
			l = append(l, tried[[]int]{make([]int, length), api.ErrKind}, tried[[]int]{filled(length, 1000), api.ErrKind}, tried[[]int]{filled(length, -1), api.ErrKind}, tried[[]int]{filled(length, great), api.ErrKind})
		}
	}
	for i := range n {
		for _, x := range outside(limit) {
			l = append(l, tried[[]int]{changed(valid, i, x), api.ErrRange}, tried[[]int]{only(n, i, x), api.ErrRange}, tried[[]int]{filled(n, x), api.ErrRange})
		}
	}
	return l
}

// wrongSums are lists of n numbers from 0 to 1000 that do not add up to 1000.
func wrongSums(n int) []tried[[]int] {
	l := []tried[[]int]{{make([]int, n), api.ErrRate}}
	if n > 1 {
		l = append(l, tried[[]int]{filled(n, 1000), api.ErrRate})
	}
	for _, r := range recipes(n) {
		for i := range n {
			if r[i] > 0 {
				l = append(l, tried[[]int]{changed(r, i, r[i]-1), api.ErrRate}, tried[[]int]{changed(r, i, 0), api.ErrRate})
			}
			if r[i] < 1000 {
				l = append(l, tried[[]int]{changed(r, i, r[i]+1), api.ErrRate}, tried[[]int]{changed(r, i, 1000), api.ErrRate})
			}
		}
	}
	return l
}

// outOfRange are lists of two or more numbers that add up to 1000, some of which are no parts of 1000.
func outOfRange(n int) []tried[[]int] {
	var l []tried[[]int]
	for i := range n {
		for k := range n {
			if k != i {
				for _, x := range ints(1001, 1002, 2000, heavy, 1<<50, 1<<62) {
					l = append(l, tried[[]int]{changed(only(n, i, x), k, 1000-x), api.ErrRange})
				}
			}
		}
	}
	return l
}

// refusedRecipes are lists that are no recipes for n kinds.
func refusedRecipes(n int) []tried[[]int] {
	return slices.Concat(refusedNumbers(n, recipes(n)[0], 1000), outOfRange(n), wrongSums(n))
}

func refusedLoads(n int) []tried[[]int] { return refusedNumbers(n, filled(n, 5), heavy) }

// lone are those of the lists that are also refused where nothing else than their length says how many kinds there are.
func lone(n int, l []tried[[]int]) []tried[[]int] {
	return slices.DeleteFunc(l, func(c tried[[]int]) bool { return len(c.x) != n && len(c.x) > 0 && len(c.x) <= most })
}

func refusedNumber(limit int) []tried[int] {
	var l []tried[int]
	for _, x := range outside(limit) {
		l = append(l, tried[int]{x, api.ErrRange})
	}
	return l
}

// expectRefused fails unless there is this error, and no other result.
func expectRefused(t *testing.T, e api.Errno, want api.Errno, empty bool, what ...any) {
	t.Helper()
	if e != want || !empty {
		t.Fatalf("%v: the error is %d, not %d; other results are zero values: %t", what, e, want, empty)
	}
}

// P16.1

func TestCheckRefuses(t *testing.T) {
	for _, c := range refusedKinds() {
		expectRefused(t, fibre.Check(c.x), c.e, true, "Check", brief(c.x), len(c.x))
	}
}

// P16.2

func TestRecipeAndPartsRefuse(t *testing.T) {
	for _, n := range lengths() {
		for _, c := range refusedRecipes(n) {
			expectRefused(t, fibre.Recipe(c.x, n), c.e, true, "Recipe", brief(c.x), len(c.x), n)
		}
		for _, c := range refusedLoads(n) {
			expectRefused(t, fibre.Parts(c.x, n), c.e, true, "Parts", brief(c.x), len(c.x), n)
		}
	}
}

// Lists of all lengths are refused for a number of kinds that there cannot be.
func TestRecipeAndPartsRefuseKinds(t *testing.T) {
	for _, n := range ints(0, -1, -2, -most, -1<<32, -1<<32+1, least, least+1, most+1, most+2, 2*most, 256, 257, 512, 513, 65536, 65537, 1<<32, 1<<32+1, 1<<32+8, great-1, great) {
		for _, length := range ints(0, 1, 2, 3, 7, 8, 9, 10, 16, 256, 257, 512, 513, 65536, 65537) {
			for _, l := range [][]int{make([]int, length), filled(length, 1), filled(length, -1), filled(length, great)} {
				expectRefused(t, fibre.Recipe(l, n), api.ErrKind, true, "Recipe", brief(l), length, n)
				expectRefused(t, fibre.Parts(l, n), api.ErrKind, true, "Parts", brief(l), length, n)
			}
			if length > 0 {
				expectRefused(t, fibre.Recipe(only(length, length-1, 1000), n), api.ErrKind, true, "Recipe", length, n)
			}
		}
	}
}

// P16.3

func TestMassesRefuses(t *testing.T) {
	for _, n := range lengths() {
		for _, r := range append(lone(n, refusedRecipes(n)), tried[[]int]{recipes(n)[0], api.OK}, tried[[]int]{only(n, n/2, 1000), api.OK}) {
			for _, mass := range append(refusedNumber(heavy), tried[int]{0, api.OK}, tried[int]{7, api.OK}, tried[int]{heavy, api.OK}) {
				if want := first(r.e, mass.e); want != api.OK {
					l, e := fibre.Masses(r.x, mass.x)
					expectRefused(t, e, want, len(l) == 0, "Masses", brief(r.x), len(r.x), mass.x)
				}
			}
		}
	}
}

func TestTotalRefuses(t *testing.T) {
	for _, n := range lengths() {
		for _, c := range lone(n, refusedLoads(n)) {
			s, e := fibre.Total(c.x)
			expectRefused(t, e, c.e, s == 0, "Total", brief(c.x), len(c.x))
		}
	}
}

// P16.4

// addError is the error of Add for lists that are refused or not.
func addError(a tried[[]int], b tried[[]int]) api.Errno {
	if len(a.x) != len(b.x) {
		return api.ErrKind
	}
	return first(a.e, b.e)
}

func TestAddRefuses(t *testing.T) {
	for _, n := range lengths() {
		l := append(refusedLoads(n), tried[[]int]{make([]int, n), api.OK}, tried[[]int]{filled(n, heavy), api.OK})
		for _, a := range l {
			for _, b := range l {
				// Of two valid lists the sums may be too great; a list of another length than n may be valid together with one of its own length.
				if a.e == api.OK && b.e == api.OK || len(a.x) == len(b.x) && len(a.x) != n {
					continue
				}
				s, e := fibre.Add(a.x, b.x)
				expectRefused(t, e, addError(a, b), len(s) == 0, "Add", brief(a.x), brief(b.x), len(a.x), len(b.x))
			}
		}
	}
}

// Two lists of the same length are refused if there cannot be as many kinds.
func TestAddRefusesLengths(t *testing.T) {
	for _, n := range ints(0, most+1, most+2, 2*most, 256, 257, 512, 513, 65537) {
		lists := [][]int{make([]int, n), filled(n, 1), filled(n, -1), filled(n, heavy), filled(n, great)}
		for _, a := range lists {
			for _, b := range lists {
				s, e := fibre.Add(a, b)
				expectRefused(t, e, api.ErrKind, len(s) == 0, "Add", brief(a), brief(b), n)
			}
		}
	}
}

func TestAddOverflows(t *testing.T) {
	for _, n := range lengths() {
		for i := range n {
			for _, a := range ints(1, 2, heavy/2, heavy/2+1, heavy-1, heavy) {
				for _, more := range ints(1, 2, a) {
					b := min(heavy-a+more, heavy)
					for _, others := range ints(0, 1, heavy/2, heavy) {
						s, e := fibre.Add(changed(filled(n, others), i, a), changed(filled(n, heavy-others), i, b))
						expectRefused(t, e, api.ErrOverflow, len(s) == 0, "Add", n, i, a, b, others)
					}
				}
			}
		}
	}
}

// P16.5

func TestCostRefusesKinds(t *testing.T) {
	for _, l := range refusedKinds() {
		n := len(l.x)
		for _, m := range [][]int{nil, make([]int, n), filled(n, heavy), filled(n, -1), filled(n, great), filled(n+1, 1), filled(1, 1)} {
			s, e := fibre.Cost(l.x, m)
			expectRefused(t, e, l.e, s == 0, "Cost", brief(l.x), n, brief(m), len(m))
		}
	}
}

func TestCostRefusesMasses(t *testing.T) {
	for _, n := range lengths() {
		for _, m := range refusedLoads(n) {
			for _, l := range [][]api.Fibre{named(n), costly(n)} {
				s, e := fibre.Cost(l, m.x)
				expectRefused(t, e, m.e, s == 0, "Cost", l, brief(m.x), len(m.x))
			}
		}
	}
}

// An invalid mass comes before a sum that is too great, wherever it stands.
func TestCostRefusesMassesBeforeSums(t *testing.T) {
	for _, n := range lengths() {
		for i := range n {
			for _, x := range outside(heavy) {
				s, e := fibre.Cost(costly(n), changed(filled(n, heavy), i, x))
				expectRefused(t, e, api.ErrRange, s == 0, "Cost", n, i, x)
			}
		}
	}
}

// P16.6

// expectNearRefused expects the first error of those of the recipe, of the masses and of the tolerance, and else that of masses that are all 0; it does nothing if there is no error.
func expectNearRefused(t *testing.T, m tried[[]int], r tried[[]int], tol tried[int]) {
	t.Helper()
	want := first(r.e, m.e, tol.e)
	if want == api.OK && sum(m.x) == 0 {
		want = api.ErrEmpty
	}
	if want != api.OK {
		ok, e := fibre.Near(m.x, r.x, tol.x)
		expectRefused(t, e, want, !ok, "Near", brief(m.x), len(m.x), brief(r.x), len(r.x), tol.x)
	}
}

// tolerances are one with each fault, and valid ones.
func tolerances() []tried[int] {
	return []tried[int]{{-1, api.ErrRange}, {1001, api.ErrRange}, {0, api.OK}, {1, api.OK}, {1000, api.OK}}
}

func TestNearRefusesRecipes(t *testing.T) {
	for _, n := range lengths() {
		for _, r := range lone(n, refusedRecipes(n)) {
			for _, m := range []tried[[]int]{{make([]int, n), api.OK}, {filled(n, 1), api.OK}, {make([]int, n+1), api.ErrKind}, {filled(n-1, -1), api.ErrKind}, {only(n, 0, -1), api.ErrRange}, {only(n, n-1, heavy+1), api.ErrRange}, {filled(n, great), api.ErrRange}} {
				for _, tol := range tolerances() {
					expectNearRefused(t, m, r, tol)
				}
			}
		}
	}
}

func TestNearRefusesMasses(t *testing.T) {
	for _, n := range lengths() {
		for _, r := range [][]int{recipes(n)[0], only(n, 0, 1000), only(n, n-1, 1000)} {
			for _, m := range refusedLoads(n) {
				for _, tol := range tolerances() {
					expectNearRefused(t, m, tried[[]int]{r, api.OK}, tol)
				}
			}
		}
	}
}

func TestNearRefusesTolerances(t *testing.T) {
	for _, n := range lengths() {
		for _, r := range recipes(n) {
			for _, m := range [][]int{make([]int, n), filled(n, 1), filled(n, heavy), only(n, 0, 1)} {
				for _, tol := range append(refusedNumber(1000), tolerances()...) {
					expectNearRefused(t, tried[[]int]{m, api.OK}, tried[[]int]{r, api.OK}, tol)
				}
			}
		}
	}
}
