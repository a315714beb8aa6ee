package tank_test

import (
	"math"
	"math/big"
	"slices"
	"strings"

	"papermill/api"
	"papermill/nat"
)

const (
	most  = api.MaxKinds
	heavy = api.MaxMass
	least = math.MinInt
	great = math.MaxInt
	top   = api.Limb - 1
)

func ints(l ...int) []int                    { return l }
func rats(l ...api.Rat) []api.Rat            { return l }
func holding(c int, l ...api.Rat) api.Tank   { return api.Tank{Cap: c, Parts: l} }
func changed[T any](l []T, i int, x T) []T   { return slices.Concat(l[:i], []T{x}, l[i+1:]) }
func repeated[T any](n int, x T) []T         { return slices.Repeat([]T{x}, n) }
func only(n int, i int, x api.Rat) []api.Rat { return changed(repeated(n, of(0, 1)), i, x) }

// lengths are all the numbers of kinds that there may be.
func lengths() []int { return ints(1, 2, 3, 4, 5, 6, 7, 8) }

// outside are numbers below and above those from low to high, by 1 and by far.
func outside(low int, high int) []int {
	return ints(low-1, low-2, -heavy, -1<<50, -1<<50-1, -1<<62, least+1, least, high+1, high+2, 2*high, heavy+1, 1<<50, 1<<50+1, 1<<53, 1<<62, great-1, great)
}

// of is p / q, which need not be in lowest terms.
func of(p int, q int) api.Rat { return number(big.NewRat(int64(p), int64(q))) }

// raw is p / q as it stands, each with one limb or, if it is 0, none.
func raw(p int, q int) api.Rat {
	limbs := func(n int) api.Nat {
		if n == 0 {
			return nil
		}
		return api.Nat{n}
	}
	return api.Rat{P: limbs(p), Q: limbs(q)}
}

// natural expects a number that fits.
func natural(n *big.Int) api.Nat {
	a, _ := nat.Parse(n.String())
	return a
}

func number(r *big.Rat) api.Rat {
	return api.Rat{Neg: r.Sign() < 0, P: natural(new(big.Int).Abs(r.Num())), Q: natural(r.Denom())}
}

func numbers(l []*big.Rat) []api.Rat {
	parts := make([]api.Rat, len(l))
	for i, r := range l {
		parts[i] = number(r)
	}
	return parts
}

// decimal is a number of decimal digits, which may be more than fit.
func decimal(text string) *big.Int {
	n, _ := new(big.Int).SetString(text, 10)
	return n
}

// power is ten to the power k.
func power(k int) *big.Int { return decimal("1" + strings.Repeat("0", k)) }

// fraction is n + 1 / q.
func fraction(n int, q *big.Int) *big.Rat {
	return new(big.Rat).Add(big.NewRat(int64(n), 1), new(big.Rat).SetFrac(big.NewInt(1), q))
}

// long is n and one more of the k-th decimal place.
func long(n int, k int) api.Rat { return number(fraction(n, power(k))) }

func same(a api.Rat, b api.Rat) bool {
	return a.Neg == b.Neg && slices.Equal(a.P, b.P) && slices.Equal(a.Q, b.Q)
}

func sameTank(a api.Tank, b api.Tank) bool {
	return a.Cap == b.Cap && slices.EqualFunc(a.Parts, b.Parts, same)
}

// random returns numbers below n in an order without a rule, the same ones in every run.
func random() func(n int) int {
	x := uint64(1)
	return func(n int) int {
		x = x*6364136223846793005 + 1442695040888963407
		return int(x >> 13 % uint64(n))
	}
}

// demand leaves what the model computes with an error unless a condition holds.
func demand(holds bool, e api.Errno) {
	if !holds {
		panic(e)
	}
}

// outcome returns the error with which f is left.
func outcome(f func()) (e api.Errno) {
	defer func() {
		if r := recover(); r != nil {
			e = r.(api.Errno)
		}
	}()
	f()
	return api.OK
}

var greatest = new(big.Int).Sub(power(9*api.MaxLimbs), big.NewInt(1))

func demandFit(l ...*big.Int) {
	for _, n := range l {
		demand(n.CmpAbs(greatest) <= 0, api.ErrOverflow)
	}
}

func product(a *big.Int, b *big.Int) *big.Int { return new(big.Int).Mul(a, b) }
func whole(n int) *big.Rat                    { return big.NewRat(int64(n), 1) }
func less(a *big.Rat, b *big.Rat) bool        { return a.Cmp(b) < 0 }

func add(a *big.Rat, b *big.Rat) *big.Rat {
	x, y := product(a.Num(), b.Denom()), product(b.Num(), a.Denom())
	demandFit(x, y, product(a.Denom(), b.Denom()), new(big.Int).Add(x, y))
	return new(big.Rat).Add(a, b)
}

func sub(a *big.Rat, b *big.Rat) *big.Rat { return add(a, new(big.Rat).Neg(b)) }

func mul(a *big.Rat, b *big.Rat) *big.Rat {
	demandFit(product(a.Num(), b.Num()), product(a.Denom(), b.Denom()))
	return new(big.Rat).Mul(a, b)
}

func div(a *big.Rat, b *big.Rat) *big.Rat { return mul(a, new(big.Rat).Inv(b)) }

// value is n if it is a natural number.
func value(n api.Nat) *big.Int {
	demand(len(n) <= api.MaxLimbs && !slices.ContainsFunc(n, func(limb int) bool { return limb < 0 || limb > top }), api.ErrForm)
	demand(len(n) == 0 || n[len(n)-1] > 0, api.ErrForm)
	x := new(big.Int)
	for _, limb := range slices.Backward(n) {
		x.Add(product(x, big.NewInt(api.Limb)), big.NewInt(int64(limb)))
	}
	return x
}

// quotient is a if it is a rational number in lowest terms.
func quotient(a api.Rat) *big.Rat {
	p, q := value(a.P), value(a.Q)
	demand(q.Sign() > 0 && new(big.Int).GCD(nil, nil, p, q).Cmp(big.NewInt(1)) == 0, api.ErrForm)
	demand(!a.Neg || p.Sign() > 0, api.ErrForm)
	if a.Neg {
		p.Neg(p)
	}
	return new(big.Rat).SetFrac(p, q)
}

// contents returns the parts of a tank and its level.
func contents(t api.Tank) ([]*big.Rat, *big.Rat) {
	demand(t.Cap >= 1 && t.Cap <= heavy, api.ErrRange)
	demand(len(t.Parts) >= 1 && len(t.Parts) <= most, api.ErrKind)
	var parts []*big.Rat
	for _, a := range t.Parts {
		part := quotient(a)
		demand(part.Sign() >= 0, api.ErrRange)
		parts = append(parts, part)
	}
	level := new(big.Rat)
	for _, part := range parts {
		level = add(level, part)
	}
	demandFit(level.Num(), product(level.Denom(), big.NewInt(int64(t.Cap))))
	demand(!less(whole(t.Cap), level), api.ErrFull)
	return parts, level
}

func modelLevel(t api.Tank) api.Rat {
	_, level := contents(t)
	return number(level)
}

func modelFill(t api.Tank, m []int) api.Tank {
	parts, _ := contents(t)
	demand(len(m) == len(parts), api.ErrKind)
	demand(slices.Min(m) >= 0 && slices.Max(m) <= heavy, api.ErrRange)
	for i := range parts {
		parts[i] = add(parts[i], whole(m[i]))
	}
	full := api.Tank{Cap: t.Cap, Parts: numbers(parts)}
	contents(full)
	return full
}

func modelDraw(t api.Tank, mass int) (api.Tank, []*big.Rat) {
	parts, level := contents(t)
	demand(mass >= 0 && mass <= heavy, api.ErrRange)
	demand(!less(level, whole(mass)), api.ErrStock)
	taken := make([]*big.Rat, len(parts))
	for i := range parts {
		taken[i] = new(big.Rat)
		if mass > 0 {
			taken[i] = div(mul(parts[i], whole(mass)), level)
			parts[i] = sub(parts[i], taken[i])
		}
	}
	return api.Tank{Cap: t.Cap, Parts: numbers(parts)}, taken
}

func modelPour(a api.Tank, b api.Tank, mass int) (api.Tank, api.Tank) {
	contents(a)
	parts, _ := contents(b)
	demand(len(a.Parts) == len(b.Parts), api.ErrKind)
	left, taken := modelDraw(a, mass)
	for i := range parts {
		parts[i] = add(parts[i], taken[i])
	}
	full := api.Tank{Cap: b.Cap, Parts: numbers(parts)}
	contents(full)
	return left, full
}

func modelPart(t api.Tank, kind int) api.Rat {
	parts, level := contents(t)
	demand(kind >= 0 && kind < len(parts), api.ErrNone)
	demand(level.Sign() > 0, api.ErrEmpty)
	return number(div(parts[kind], level))
}

// copied shares no memory with a.
func copied(a api.Tank) api.Tank {
	parts := slices.Clone(a.Parts)
	for i, part := range parts {
		parts[i].P, parts[i].Q = slices.Clone(part.P), slices.Clone(part.Q)
	}
	return api.Tank{Cap: a.Cap, Parts: parts}
}
