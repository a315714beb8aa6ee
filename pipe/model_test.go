package pipe_test

import (
	"math"
	"math/big"
	"slices"

	"papermill/api"
)

const (
	most  = api.MaxKinds
	many  = api.MaxPlugs
	heavy = api.MaxMass
	least = math.MinInt
	great = math.MaxInt
)

func ints(l ...int) []int                        { return l }
func of(hold int, plugs ...[]int) api.Pipe       { return api.Pipe{Hold: hold, Plugs: plugs} }
func repeated(n int, x int) []int                { return slices.Repeat(ints(x), n) }
func changed[T any](l []T, i int, x T) []T       { return slices.Concat(l[:i], []T{x}, l[i+1:]) }
func only(n int, i int, x int) []int             { return changed(make([]int, n), i, x) }
func alike(n int, plug ...int) [][]int           { return slices.Repeat([][]int{plug}, n) }
func equal(a [][]int, b [][]int) bool            { return slices.EqualFunc(a, b, slices.Equal[[]int]) }
func same(a api.Pipe, b api.Pipe) bool           { return a.Hold == b.Hold && equal(a.Plugs, b.Plugs) }
func lengths() []int                             { return ints(1, 2, 3, 4, 5, 6, 7, 8) }
func all(p api.Pipe) []int                       { return slices.Concat(p.Plugs...) }
func sums(a []int, b []int) []int                { return each(a, b, func(x int, y int) int { return x + y }) }
func differences(a []int, b []int) []int         { return each(a, b, func(x int, y int) int { return x - y }) }
func clamp(n int, low int, high int) int         { return max(low, min(n, high)) }
func without[T any](l []T, f func(x T) bool) []T { return slices.DeleteFunc(slices.Clone(l), f) }

// filled is a pipe with plugs, which adds them up.
func filled(plugs ...[]int) api.Pipe {
	p := of(0, plugs...)
	p.Hold = sum(all(p))
	return p
}

func copied(p api.Pipe) api.Pipe {
	c := of(p.Hold)
	for _, plug := range p.Plugs {
		c.Plugs = append(c.Plugs, slices.Clone(plug))
	}
	return c
}

// outside are numbers below and above those from low to high, by 1 and by far.
func outside(low int, high int) []int {
	return ints(low-1, low-2, -heavy, -1<<50, -1<<50-1, -1<<62, least+1, least, high+1, high+2, 2*high, heavy+1, 1<<50, 1<<50+1, 1<<53, 1<<62, great-1, great)
}

// sum expects numbers whose sum fits in an int.
func sum(l []int) int {
	s := 0
	for _, n := range l {
		s += n
	}
	return s
}

// each expects two lists of the same length.
func each(a []int, b []int, f func(x int, y int) int) []int {
	var l []int
	for i := range a {
		l = append(l, f(a[i], b[i]))
	}
	return l
}

// random returns numbers below n in an order without a rule, the same ones in every run.
func random() func(n int) int {
	x := uint64(1)
	return func(n int) int {
		x = x*6364136223846793005 + 1442695040888963407
		return int(x >> 13 % uint64(n))
	}
}

// demand leaves what the model computes with an error unless a condition holds.
func demand(holds bool, e api.Errno) {
	if !holds {
		panic(e)
	}
}

// outcome returns the error with which f is left.
func outcome(f func()) (e api.Errno) {
	defer func() {
		if r := recover(); r != nil {
			e = r.(api.Errno)
		}
	}()
	f()
	return api.OK
}

func modelMasses(m []int, kinds int) {
	demand(kinds >= 1 && kinds <= most && len(m) == kinds, api.ErrKind)
	demand(slices.Min(m) >= 0 && slices.Max(m) <= heavy, api.ErrRange)
}

func modelCheck(p api.Pipe) {
	demand(p.Hold >= 1 && p.Hold <= heavy, api.ErrRange)
	demand(len(p.Plugs) >= 1, api.ErrEmpty)
	demand(len(p.Plugs) <= many, api.ErrFull)
	for _, plug := range p.Plugs {
		modelMasses(plug, len(p.Plugs[0]))
		demand(slices.Max(plug) > 0, api.ErrEmpty)
	}
	demand(sum(all(p)) == p.Hold, api.ErrBalance)
}

func modelNew(parts []int) api.Pipe {
	modelMasses(parts, len(parts))
	demand(slices.Max(parts) > 0, api.ErrEmpty)
	demand(sum(parts) <= heavy, api.ErrRange)
	return filled(slices.Clone(parts))
}

// shares gives the units that remain one by one, each to the first one of the largest remainders.
func shares(mass int, weights []int) []int {
	l, remainders := make([]int, len(weights)), make([]int, len(weights))
	whole := big.NewInt(int64(sum(weights)))
	for i, w := range weights {
		product := new(big.Int).Mul(big.NewInt(int64(mass)), big.NewInt(int64(w)))
		share, rest := product.DivMod(product, whole, new(big.Int))
		l[i], remainders[i] = int(share.Int64()), int(rest.Int64())
	}
	for sum(l) < mass {
		i := slices.Index(remainders, slices.Max(remainders))
		l[i]++
		remainders[i] = -1
	}
	return l
}

// modelPush lays the plugs side by side: what leaves is what lies before the place S. No plug is visited differently from the others.
func modelPush(p api.Pipe, in []int) (api.Pipe, []int) {
	modelCheck(p)
	modelMasses(in, len(p.Plugs[0]))
	s := sum(in)
	demand(s <= p.Hold, api.ErrFull)
	next, out := of(p.Hold), make([]int, len(in))
	place := 0
	for _, plug := range append(slices.Clone(p.Plugs), in) {
		if slices.Max(plug) == 0 {
			continue
		}
		part := shares(clamp(s-place, 0, sum(plug)), plug)
		out = sums(out, part)
		if rest := differences(plug, part); slices.Max(rest) > 0 {
			next.Plugs = append(next.Plugs, rest)
		}
		place += sum(plug)
	}
	demand(len(next.Plugs) <= many, api.ErrFull)
	return next, out
}

func modelContent(p api.Pipe) []int {
	modelCheck(p)
	masses := all(p)
	content := make([]int, len(p.Plugs[0]))
	for i, mass := range masses {
		content[i%len(content)] += mass
	}
	return content
}

func modelAge(p api.Pipe, plug int) int {
	modelCheck(p)
	demand(plug >= 0 && plug < len(p.Plugs), api.ErrNone)
	behind := of(0, p.Plugs[plug+1:]...)
	return p.Hold - sum(all(behind))
}

// cut divides c at n - 1 places, which may be equal.
func cut(n int, c int, next func(n int) int) []int {
	places := ints(c)
	for range n - 1 {
		places = append(places, next(c+1))
	}
	slices.Sort(places)
	for i := n - 1; i > 0; i-- {
		places[i] -= places[i-1]
	}
	return places
}

// pieces divides c, which is at least n, into n masses that are not 0.
func pieces(n int, c int, next func(n int) int) []int {
	return sums(cut(n, c-n, next), repeated(n, 1))
}

// pipes are valid pipes with a number of kinds: with one plug and with many, with plugs of one kind and of all, with equal plugs and with different ones.
func pipes(kinds int) []api.Pipe {
	next := random()
	var l []api.Pipe
	for _, hold := range ints(1, 2, 3, 100, 256, 1000003, heavy-1, heavy) {
		for i := range kinds {
			l = append(l, of(hold, only(kinds, i, hold)), of(hold, changed(repeated(kinds, hold/kinds), i, hold/kinds+hold%kinds)))
		}
		for _, count := range ints(1, 2, 3, 4, 17, many-1, many) {
			if count > hold {
				continue
			}
			mixed, pure := of(hold), of(hold)
			for i, mass := range pieces(count, hold, next) {
				mixed.Plugs = append(mixed.Plugs, cut(kinds, mass, next))
				pure.Plugs = append(pure.Plugs, only(kinds, i%kinds, mass))
			}
			even := alike(count, only(kinds, count%kinds, hold/count)...)
			even[next(count)] = only(kinds, 0, hold/count+hold%count)
			l = append(l, mixed, pure, of(hold, even...))
		}
	}
	return l
}

// small are all the lists of n numbers from 0 to the greatest one.
func small(n int, greatest int) [][]int {
	if n == 0 {
		return [][]int{nil}
	}
	var l [][]int
	for _, rest := range small(n-1, greatest) {
		for x := range greatest + 1 {
			l = append(l, slices.Concat(rest, ints(x)))
		}
	}
	return l
}

// smallPipes are all pipes with a number of kinds, up to so many plugs, and masses up to the greatest one.
func smallPipes(kinds int, plugs int, greatest int) []api.Pipe {
	var l []api.Pipe
	for n := 1; n <= plugs; n++ {
		for _, masses := range small(n*kinds, greatest) {
			p := filled(slices.Collect(slices.Chunk(masses, kinds))...)
			if !slices.ContainsFunc(p.Plugs, func(plug []int) bool { return sum(plug) == 0 }) {
				l = append(l, p)
			}
		}
	}
	return l
}

// ages are the places in a pipe at which its plugs end.
func ages(p api.Pipe) []int {
	place := 0
	var l []int
	for _, plug := range p.Plugs {
		place += sum(plug)
		l = append(l, place)
	}
	return l
}

// amounts are what may be pushed into a pipe: nothing, a gram, around the ends of some plugs, and all.
func amounts(p api.Pipe, next func(n int) int) []int {
	l, ends := ints(0, 1, 2, p.Hold/2, p.Hold-1, p.Hold, next(p.Hold+1)), ages(p)
	n := len(ends)
	for _, i := range ints(0, 1, n/2, n-2, n-1) {
		if i >= 0 && i < n {
			l = append(l, ends[i]-1, ends[i], ends[i]+1)
		}
	}
	slices.Sort(l)
	return without(slices.Compact(l), func(mass int) bool { return mass > p.Hold })
}
