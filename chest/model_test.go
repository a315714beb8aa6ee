package chest_test

import (
	"math"
	"math/big"
	"slices"

	"papermill/api"
)

const (
	most  = api.MaxKinds
	heavy = api.MaxMass
	least = math.MinInt
	great = math.MaxInt
)

func ints(l ...int) []int                 { return l }
func of(c int, l ...int) api.Chest        { return api.Chest{Cap: c, Parts: l} }
func repeated(n int, x int) []int         { return slices.Repeat(ints(x), n) }
func changed(l []int, i int, x int) []int { return slices.Concat(l[:i], ints(x), l[i+1:]) }
func only(n int, i int, x int) []int      { return changed(make([]int, n), i, x) }
func same(a api.Chest, b api.Chest) bool  { return a.Cap == b.Cap && slices.Equal(a.Parts, b.Parts) }
func copied(c api.Chest) api.Chest        { return of(c.Cap, slices.Clone(c.Parts)...) }
func isMass(mass int) bool                { return mass >= 0 && mass <= heavy }
func areMasses(l []int) bool              { return isMass(slices.Min(l)) && isMass(slices.Max(l)) }
func lengths() []int                      { return ints(1, 2, 3, 4, 5, 6, 7, 8) }
func numerous(limit int) []int            { return ints(0, 1, 2, limit/3, limit/2, limit-1, limit) }

// outside are numbers below and above those from low to high, by 1 and by far.
func outside(low int, high int) []int {
	return ints(low-1, low-2, -heavy, -1<<50, -1<<50-1, -1<<62, least+1, least, high+1, high+2, 2*high, heavy+1, 1<<50, 1<<50+1, 1<<53, 1<<62, great-1, great)
}

// sum expects numbers whose sum fits in an int.
func sum(l []int) int {
	s := 0
	for _, n := range l {
		s += n
	}
	return s
}

func product(a int, b int) *big.Int {
	return new(big.Int).Mul(big.NewInt(int64(a)), big.NewInt(int64(b)))
}

// sums are those of two lists of the same length.
func sums(a []int, b []int) []int {
	var l []int
	for i := range a {
		l = append(l, a[i]+b[i])
	}
	return l
}

// random returns numbers below n in an order without a rule, the same ones in every run.
func random() func(n int) int {
	x := uint64(1)
	return func(n int) int {
		x = x*6364136223846793005 + 1442695040888963407
		return int(x >> 13 % uint64(n))
	}
}

// demand leaves what the model computes with an error unless a condition holds.
func demand(holds bool, e api.Errno) {
	if !holds {
		panic(e)
	}
}

// outcome returns the error with which f is left.
func outcome(f func()) (e api.Errno) {
	defer func() {
		if r := recover(); r != nil {
			e = r.(api.Errno)
		}
	}()
	f()
	return api.OK
}

func modelLevel(c api.Chest) int {
	demand(c.Cap >= 1 && c.Cap <= heavy, api.ErrRange)
	demand(len(c.Parts) >= 1 && len(c.Parts) <= most, api.ErrKind)
	demand(areMasses(c.Parts), api.ErrRange)
	demand(sum(c.Parts) <= c.Cap, api.ErrFull)
	return sum(c.Parts)
}

func modelFill(c api.Chest, m []int) api.Chest {
	modelLevel(c)
	demand(len(m) == len(c.Parts), api.ErrKind)
	demand(areMasses(m), api.ErrRange)
	full := of(c.Cap, sums(c.Parts, m)...)
	demand(sum(full.Parts) <= c.Cap, api.ErrFull)
	return full
}

// shares gives the units that remain one by one, each to the first one of the largest remainders.
func shares(mass int, parts []int) []int {
	l, remainders := make([]int, len(parts)), make([]int, len(parts))
	if mass == 0 {
		return l
	}
	level := big.NewInt(int64(sum(parts)))
	for i, part := range parts {
		share, rest := new(big.Int).DivMod(product(mass, part), level, new(big.Int))
		l[i], remainders[i] = int(share.Int64()), int(rest.Int64())
	}
	for sum(l) < mass {
		i := slices.Index(remainders, slices.Max(remainders))
		l[i]++
		remainders[i] = -1
	}
	return l
}

func modelDraw(c api.Chest, mass int) (api.Chest, []int) {
	level := modelLevel(c)
	demand(isMass(mass), api.ErrRange)
	demand(mass <= level, api.ErrStock)
	taken := shares(mass, c.Parts)
	left := copied(c)
	for i := range taken {
		left.Parts[i] -= taken[i]
	}
	return left, taken
}

func modelPour(a api.Chest, b api.Chest, mass int) (api.Chest, api.Chest) {
	modelLevel(a)
	modelLevel(b)
	demand(len(a.Parts) == len(b.Parts), api.ErrKind)
	left, taken := modelDraw(a, mass)
	full := of(b.Cap, sums(b.Parts, taken)...)
	demand(sum(full.Parts) <= b.Cap, api.ErrFull)
	return left, full
}

func modelRate(c api.Chest, kind int) int {
	level := modelLevel(c)
	demand(kind >= 0 && kind < len(c.Parts), api.ErrNone)
	demand(level > 0, api.ErrEmpty)
	return int(new(big.Int).Div(product(1000, c.Parts[kind]), big.NewInt(int64(level))).Int64())
}

// chests are valid chests with n parts: empty, with one part, full and not, with equal parts and with different ones.
func chests(n int) []api.Chest {
	next := random()
	var l []api.Chest
	for _, c := range ints(1, 2, 3, 100, 1000003, heavy-1, heavy) {
		even := repeated(n, c/n)
		l = append(l, of(c, repeated(n, 0)...), of(c, even...), of(c, changed(even, n-1, c/n+c%n)...), of(c, repeated(n, c/(n+1))...), of(c, uneven(n, c)...), of(c, cut(n, c, next)...), of(c, cut(n, c, next)...), of(c, cut(n, c-1, next)...))
		for i := range n {
			l = append(l, of(c, only(n, i, c)...), of(c, only(n, i, c-1)...), of(c, only(n, i, 1)...), of(c, changed(even, i, 0)...), of(c, changed(repeated(n, c/n/3), i, c/n)...))
		}
	}
	return l
}

// uneven are n parts that grow, as different as they can be, and whose sum is at most c.
func uneven(n int, c int) []int {
	primes := ints(2, 3, 5, 7, 11, 13, 17, 19)[:n]
	var l []int
	for _, p := range primes {
		l = append(l, int(new(big.Int).Div(product(c, p), big.NewInt(int64(sum(primes)))).Int64()))
	}
	return l
}

// cut divides c at n - 1 places, which may be equal.
func cut(n int, c int, next func(n int) int) []int {
	places := ints(c)
	for range n - 1 {
		places = append(places, next(c+1))
	}
	slices.Sort(places)
	for i := n - 1; i > 0; i-- {
		places[i] -= places[i-1]
	}
	return places
}

// small are all the lists of n parts from 0 to the greatest one.
func small(n int, greatest int) [][]int {
	if n == 0 {
		return [][]int{nil}
	}
	var l [][]int
	for _, rest := range small(n-1, greatest) {
		for x := range greatest + 1 {
			l = append(l, slices.Concat(rest, ints(x)))
		}
	}
	return l
}
