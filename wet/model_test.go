package wet_test

import (
	"math"
	"math/big"
	"slices"
	"strings"

	"papermill/api"
	"papermill/nat"
)

const (
	heavy   = api.MaxMass
	top     = api.Limb - 1
	least   = math.MinInt
	great   = math.MaxInt
	mille   = 1000
	limbs   = 8
	longest = 16
)

func ints(l ...int) []int         { return l }
func rats(l ...api.Rat) []api.Rat { return l }

func end(fresh int, retain int, recycle int) api.Wet {
	return api.Wet{Fresh: fresh, Retain: retain, Recycle: recycle}
}

// of is p / q, which need not be in lowest terms.
func of(p int, q int) api.Rat { return number(ratio(p, q)) }

// raw is p / q as it stands, each with one limb or, if it is 0, none.
func raw(p int, q int) api.Rat {
	natural := func(n int) api.Nat {
		if n == 0 {
			return nil
		}
		return api.Nat{n}
	}
	return api.Rat{P: natural(p), Q: natural(q)}
}

func negative(a api.Rat) api.Rat { return api.Rat{Neg: true, P: a.P, Q: a.Q} }

func same(a api.Rat, b api.Rat) bool {
	return a.Neg == b.Neg && slices.Equal(a.P, b.P) && slices.Equal(a.Q, b.Q)
}

func copied(a api.Rat) api.Rat {
	return api.Rat{Neg: a.Neg, P: slices.Clone(a.P), Q: slices.Clone(a.Q)}
}

// fits reports whether white water may be as long as a.
func fits(a api.Rat) bool { return len(a.P) <= limbs && len(a.Q) <= limbs }

// natural expects a number that fits into MaxLimbs limbs.
func natural(n *big.Int) api.Nat {
	a, _ := nat.Parse(n.String())
	return a
}

func number(r *big.Rat) api.Rat {
	return api.Rat{Neg: r.Sign() < 0, P: natural(new(big.Int).Abs(r.Num())), Q: natural(r.Denom())}
}

func numbers(l ...*big.Rat) []api.Rat {
	var parts []api.Rat
	for _, r := range l {
		parts = append(parts, number(r))
	}
	return parts
}

// power is ten to the power k, and n more.
func power(k int, n int) *big.Int {
	p, _ := new(big.Int).SetString("1"+strings.Repeat("0", k), 10)
	return p.Add(p, big.NewInt(int64(n)))
}

func fraction(p *big.Int, q *big.Int) *big.Rat { return new(big.Rat).SetFrac(p, q) }
func ratio(p int, q int) *big.Rat              { return big.NewRat(int64(p), int64(q)) }
func whole(n int) *big.Rat                     { return ratio(n, 1) }
func small(k int) *big.Rat                     { return fraction(big.NewInt(1), power(k, 0)) }
func plus(a *big.Rat, b *big.Rat) *big.Rat     { return new(big.Rat).Add(a, b) }
func minus(a *big.Rat, b *big.Rat) *big.Rat    { return new(big.Rat).Sub(a, b) }
func times(a *big.Rat, b *big.Rat) *big.Rat    { return new(big.Rat).Mul(a, b) }
func by(a *big.Rat, b *big.Rat) *big.Rat       { return new(big.Rat).Quo(a, b) }
func equal(a *big.Rat, b *big.Rat) bool        { return a.Cmp(b) == 0 }

func sum(l ...*big.Rat) *big.Rat {
	s := new(big.Rat)
	for _, a := range l {
		s.Add(s, a)
	}
	return s
}

// random returns numbers below n in an order without a rule, the same ones in every run.
func random() func(n int) int {
	x := uint64(1)
	return func(n int) int {
		x = x*6364136223846793005 + 1442695040888963407
		return int(x >> 13 % uint64(n))
	}
}

// demand leaves what the model computes with an error unless a condition holds.
func demand(holds bool, e api.Errno) {
	if !holds {
		panic(e)
	}
}

// outcome returns the error with which f is left.
func outcome(f func()) (e api.Errno) {
	defer func() {
		if r := recover(); r != nil {
			e = r.(api.Errno)
		}
	}()
	f()
	return api.OK
}

// value is n if it is a natural number.
func value(n api.Nat) *big.Int {
	demand(len(n) <= api.MaxLimbs && !slices.ContainsFunc(n, func(limb int) bool { return limb < 0 || limb > top }), api.ErrForm)
	demand(len(n) == 0 || n[len(n)-1] > 0, api.ErrForm)
	x := new(big.Int)
	for _, limb := range slices.Backward(n) {
		x.Add(x.Mul(x, big.NewInt(api.Limb)), big.NewInt(int64(limb)))
	}
	return x
}

// quotient is a if it is a rational number in lowest terms.
func quotient(a api.Rat) *big.Rat {
	p, q := value(a.P), value(a.Q)
	demand(q.Sign() > 0 && new(big.Int).GCD(nil, nil, p, q).Cmp(big.NewInt(1)) == 0, api.ErrForm)
	demand(!a.Neg || p.Sign() > 0, api.ErrForm)
	if a.Neg {
		p.Neg(p)
	}
	return fraction(p, q)
}

func modelCheck(w api.Wet) api.Errno {
	if w.Fresh < 0 || w.Fresh > heavy {
		return api.ErrRange
	}
	if w.Retain <= 0 || w.Retain > mille || w.Recycle < 0 || w.Recycle > mille-1 {
		return api.ErrRate
	}
	return api.OK
}

func demandValid(w api.Wet) {
	e := modelCheck(w)
	demand(e == api.OK, e)
}

// modelWhite is white water if it may be passed to a function.
func modelWhite(w api.Wet, a api.Rat) *big.Rat {
	demandValid(w)
	white := quotient(a)
	demand(white.Sign() >= 0, api.ErrRange)
	demand(fits(a), api.ErrLimit)
	return white
}

// flow is what becomes of the fibre in the head box.
type flow struct{ paper, sewer, white *big.Rat }

// stepped computes a step as the chapter defines it.
func stepped(w api.Wet, white *big.Rat) flow {
	head := plus(whole(w.Fresh), white)
	paper := times(head, ratio(w.Retain, mille))
	rest := minus(head, paper)
	after := times(rest, ratio(w.Recycle, mille))
	return flow{paper, minus(rest, after), after}
}

func modelStep(w api.Wet, white api.Rat) flow {
	return stepped(w, modelWhite(w, white))
}

// factor is that by which a step multiplies the difference from the white water at rest.
func factor(w api.Wet) *big.Rat {
	return times(ratio(mille-w.Retain, mille), ratio(w.Recycle, mille))
}

// atRest is found from what two steps make of the white water 0 and 1: a step leaves a sum and a multiple of the white water before.
func atRest(w api.Wet) *big.Rat {
	from0, from1 := stepped(w, whole(0)).white, stepped(w, whole(1)).white
	multiple := minus(from1, from0)
	return by(from0, minus(whole(1), multiple))
}

func modelSteady(w api.Wet) *big.Rat {
	demandValid(w)
	return atRest(w)
}

// modelRun computes n steps, one after the other; what they return is added up.
func modelRun(w api.Wet, a api.Rat, n int) flow {
	white := modelWhite(w, a)
	demand(n >= 0 && n <= longest, api.ErrRange)
	total := flow{whole(0), whole(0), white}
	for range n {
		total = followed(w, total)
	}
	return total
}

// followed is what steps return together with one step more.
func followed(w api.Wet, total flow) flow {
	s := stepped(w, total.white)
	return flow{plus(total.paper, s.paper), plus(total.sewer, s.sewer), s.white}
}

// edges are wet ends at the limits of all fields, each with each, and ordinary ones.
func edges() []api.Wet {
	l := []api.Wet{end(900, 600, 500), end(100, 750, 800), end(10, 300, 250), end(999999937, 997, 991), end(heavy-1, 999, 1), end(heavy/3, 2, 998)}
	for _, fresh := range ints(0, 1, heavy) {
		for _, retain := range ints(1, mille) {
			for _, recycle := range ints(0, mille-1) {
				l = append(l, end(fresh, retain, recycle))
			}
		}
	}
	return l
}

// ends are the edges and a grid of other wet ends.
func ends() []api.Wet {
	l := edges()
	for _, fresh := range ints(0, 1, 2, 900, 12345678, heavy/2, heavy-1, heavy) {
		for _, retain := range ints(1, 2, 3, 250, 500, 600, 875, 998, 999, 1000) {
			for _, recycle := range ints(0, 1, 2, 7, 125, 500, 800, 998, 999) {
				l = append(l, end(fresh, retain, recycle))
			}
		}
	}
	return l
}

// long are numbers whose P, whose Q or both have as many limbs as they may have.
func long() []api.Rat {
	few, one := 9*limbs-9, big.NewInt(1)
	return numbers(
		fraction(power(few, 0), one), fraction(power(few+9, -1), one), fraction(power(few+9, -1), big.NewInt(top-1)),
		fraction(one, power(few, 0)), fraction(one, power(few+9, -1)), fraction(big.NewInt(top), power(few+9, -2)),
		fraction(power(few, 0), power(few, 1)), fraction(power(few, 1), power(few, 0)), fraction(power(few+9, -2), power(few+9, -1)), fraction(power(few+9, -1), power(few+9, -2)), fraction(power(few+9, -1), power(few, 0)), fraction(power(few, 0), power(few+9, -1)))
}

// around are the white water that a wet end has at rest, and others just below and just above it, if they are not negative.
func around(w api.Wet) []api.Rat {
	rest := atRest(w)
	l := numbers(rest, plus(rest, small(9)), plus(rest, small(45)), plus(rest, whole(1)), times(rest, ratio(1, 2)), times(rest, whole(2)))
	for _, less := range []*big.Rat{small(45), small(9), whole(1)} {
		if below := minus(rest, less); below.Sign() >= 0 {
			l = append(l, number(below))
		}
	}
	return l
}

// whites are white water of every kind: nothing, integers, fractions, around that at rest, and so much that the fresh fibre is nothing beside it.
func whites(w api.Wet) []api.Rat {
	l := numbers(whole(0), whole(1), whole(100), whole(api.Limb), whole(heavy), ratio(1, 2), ratio(22, 7), ratio(1, top), ratio(heavy-1, heavy), ratio(heavy, 3), fraction(power(45, 7), big.NewInt(1)), fraction(power(60, 1), big.NewInt(3)))
	return slices.Concat(l, around(w), long())
}
