package fibre_test

import (
	"math"
	"math/big"
	"regexp"
	"slices"
	"strings"

	"papermill/api"
)

const (
	most  = api.MaxKinds
	heavy = api.MaxMass
	money = api.MaxMoney
	dear  = 1000000000 // the greatest cost of a tonne
	least = math.MinInt
	great = math.MaxInt
)

func ints(l ...int) []int                  { return l }
func kind(name string, cost int) api.Fibre { return api.Fibre{Name: name, Cost: cost} }
func kinds(l ...api.Fibre) []api.Fibre     { return l }
func filled(n int, x int) []int            { return slices.Repeat(ints(x), n) }
func brief[T any](l []T) []T               { return l[:min(len(l), most+1)] }
func changed[T any](l []T, i int, x T) []T { return slices.Concat(l[:i], []T{x}, l[i+1:]) }
func only(n int, i int, x int) []int       { return changed(make([]int, n), i, x) }
func turned(l []int, by int) []int         { return slices.Concat(l[by:], l[:by]) }

// lengths are all the numbers of kinds that there may be.
func lengths() []int { return ints(1, 2, 3, 4, 5, 6, 7, 8) }

// outside are numbers below 0 and above a limit, by 1 and by far.
func outside(limit int) []int {
	return ints(-1, -2, -1000, -heavy, -1<<50, -1<<50-1, -1<<62, least+1, least, limit+1, limit+2, 2*limit, 2*limit+2, 1<<50, 1<<50+1, 1<<53, 1<<62, great-1, great)
}

// sum expects numbers whose sum fits in an int.
func sum(l []int) int {
	s := 0
	for _, n := range l {
		s += n
	}
	return s
}

// random returns numbers below n in an order without a rule, the same ones in every run.
func random() func(n int) int {
	x := uint64(1)
	return func(n int) int {
		x = x*6364136223846793005 + 1442695040888963407
		return int(x >> 13 % uint64(n))
	}
}

// named are n valid kinds, with names of one byte to the greatest length, and costs from 0 to the greatest one.
func named(n int) []api.Fibre {
	return kinds(kind("p", 0), kind("birch", 1000), kind(strings.Repeat("Q", api.MaxName), dear), kind("P", 60000), kind("b-2._x", 1), kind("birch2", dear-1), kind("birc", 999999), kind(strings.Repeat("Q", api.MaxName-1)+"R", 1000000))[:n]
}

// many are n kinds with different names.
func many(n int) []api.Fibre {
	var l []api.Fibre
	for i := range n {
		name := []byte{'k', 'a', 'a', 'a', 'a'}
		for k, left := 1, i; left > 0; k, left = k+1, left/26 {
			name[k] += byte(left % 26)
		}
		l = append(l, kind(string(name), i))
	}
	return l
}

// costly are n kinds of the greatest cost.
func costly(n int) []api.Fibre {
	l := many(n)
	for i := range l {
		l[i].Cost = dear
	}
	return l
}

var identifier = regexp.MustCompile(`\A[A-Za-z][A-Za-z0-9_.-]{0,31}\z`)

// kindError is the error of a kind alone.
func kindError(k api.Fibre) api.Errno {
	if !identifier.MatchString(k.Name) {
		return api.ErrName
	}
	if k.Cost < 0 || k.Cost > dear {
		return api.ErrRange
	}
	return api.OK
}

// recipes are recipes for n kinds: all of one kind, as equal parts as can be, and others with zeros and without.
func recipes(n int) [][]int {
	even := filled(n, 1000/n)
	even[n-1] += 1000 % n
	l := [][]int{even}
	for i := range n {
		l = append(l, only(n, i, 1000), turned(even, i))
		for k := range n {
			if k != i {
				l = append(l, changed(only(n, i, 999), k, 1), changed(only(n, i, 500), k, 500), changed(only(n, i, 333), k, 667))
			}
		}
	}
	next := random()
	for range 20 {
		l = append(l, cut(n, next))
	}
	return l
}

// cut divides 1000 at n - 1 places, which may be equal.
func cut(n int, next func(n int) int) []int {
	places := ints(1000)
	for range n - 1 {
		places = append(places, next(1001))
	}
	slices.Sort(places)
	for i := n - 1; i > 0; i-- {
		places[i] -= places[i-1]
	}
	return places
}

// amounts are masses from 0 to the greatest one.
func amounts() []int {
	return ints(0, 1, 2, 3, 7, 10, 99, 100, 333, 499, 500, 501, 998, 999, 1000, 1001, 1002, 1003, 1999, 2000, 12345, 999999, 1000000, 1000001, 1<<31-1, 1<<31, 1<<32+1, heavy/2, heavy-1000, heavy-999, heavy-2, heavy-1, heavy)
}

// loads are lists of n masses.
func loads(n int) [][]int {
	l := [][]int{make([]int, n), filled(n, 1), filled(n, 1000), filled(n, heavy-1), filled(n, heavy)}
	for i := range n {
		l = append(l, only(n, i, 1), only(n, i, 999), only(n, i, heavy), changed(filled(n, 1), i, 0), changed(filled(n, heavy), i, 0), changed(filled(n, heavy), i, heavy-1), changed(filled(n, 5), i, heavy))
	}
	next := random()
	for range 10 {
		for _, limit := range ints(3, 1001, 1<<20, heavy+1) {
			m := make([]int, n)
			for i := range m {
				m[i] = next(limit)
			}
			l = append(l, m)
		}
	}
	return l
}

// divided gives the units that remain one by one, each to the first one of the largest remainders.
func divided(r []int, mass int) []int {
	parts, remainders := make([]int, len(r)), make([]int, len(r))
	for i, n := range r {
		parts[i], remainders[i] = n*mass/1000, n*mass%1000
	}
	for sum(parts) < mass {
		i := slices.Index(remainders, slices.Max(remainders))
		parts[i]++
		remainders[i] = -1
	}
	return parts
}

// cents adds a half and rounds down; of a half itself the result is even.
func cents(cost int, mass int) int {
	product := new(big.Int).Mul(big.NewInt(int64(cost)), big.NewInt(int64(mass)))
	whole, rest := new(big.Int).DivMod(product.Add(product, big.NewInt(500000)), big.NewInt(1000000), new(big.Int))
	if rest.Sign() == 0 && whole.Bit(0) == 1 {
		return int(whole.Int64()) - 1
	}
	return int(whole.Int64())
}

func costs(l []api.Fibre, m []int) int {
	s := 0
	for i, k := range l {
		s += cents(k.Cost, m[i])
	}
	return s
}

// isNear compares the differences of the proportions with the tolerance, as rational numbers.
func isNear(m []int, r []int, tol int) bool {
	for i := range m {
		d := new(big.Rat).Sub(big.NewRat(int64(m[i]), int64(sum(m))), big.NewRat(int64(r[i]), 1000))
		if d.Abs(d).Cmp(big.NewRat(int64(tol), 1000)) > 0 {
			return false
		}
	}
	return true
}
