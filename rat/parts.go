package rat

import (
	"papermill/api"
	"papermill/nat"
)

func inRange(n int) bool {
	return -api.MaxNum <= n && n <= api.MaxNum
}

func isOne(n api.Nat) bool {
	return len(n) == 1 && n[0] == 1
}

func isZero(a api.Rat) bool {
	return len(a.P) == 0
}

// signed is the number p / q, which is in lowest terms, with a sign. Zero is never negative.
func signed(negative bool, p api.Nat, q api.Nat) api.Rat {
	return api.Rat{Neg: negative && len(p) > 0, P: p, Q: q}
}

// reduced expects that q is not zero.
func reduced(negative bool, p api.Nat, q api.Nat) api.Rat {
	g, _ := nat.Gcd(p, q)
	p, _, _ = nat.DivMod(p, g)
	q, _, _ = nat.DivMod(q, g)
	return signed(negative, p, q)
}

// products returns a * b and c * d: ErrOverflow if one of them does not fit.
func products(a api.Nat, b api.Nat, c api.Nat, d api.Nat) (api.Nat, api.Nat, api.Errno) {
	x, e := nat.Mul(a, b)
	if e != api.OK {
		return nil, nil, e
	}
	y, e := nat.Mul(c, d)
	if e != api.OK {
		return nil, nil, e
	}
	return x, y, api.OK
}

// sum is Add of valid numbers: those that the package itself has computed need not be checked again, which takes as long as to reduce them.
func sum(a api.Rat, b api.Rat) (api.Rat, api.Errno) {
	var x, y, p, q api.Nat
	var negative bool
	var e api.Errno
	steps := []func(){
		func() { x, y, e = products(a.P, b.Q, b.P, a.Q) },
		func() { q, e = nat.Mul(a.Q, b.Q) },
		func() { negative, p, e = signedSum(a.Neg, x, b.Neg, y) },
	}
	for _, step := range steps {
		if step(); e != api.OK {
			return api.Rat{}, e
		}
	}
	return reduced(negative, p, q), api.OK
}

// signedSum returns the sign and the magnitude of the sum of x and y, which are negative as told. The sign of a sum that is zero says nothing.
func signedSum(negX bool, x api.Nat, negY bool, y api.Nat) (bool, api.Nat, api.Errno) {
	if negX == negY {
		s, e := nat.Add(x, y)
		return negX, s, e
	}
	if c, _ := nat.Cmp(x, y); c < 0 {
		negX, x, y = negY, y, x
	}
	d, e := nat.Sub(x, y)
	return negX, d, e
}

// times is Mul of numbers with a denominator that is not zero.
func times(a api.Rat, b api.Rat) (api.Rat, api.Errno) {
	p, q, e := products(a.P, b.P, a.Q, b.Q)
	if e != api.OK {
		return api.Rat{}, e
	}
	return reduced(a.Neg != b.Neg, p, q), api.OK
}

// rounded returns the integer part of a or, if a is no integer and away is set, the next integer away from zero.
func rounded(a api.Rat, away bool) (int, api.Errno) {
	if !Valid(a) {
		return 0, api.ErrForm
	}
	q, r, _ := nat.DivMod(a.P, a.Q)
	n, e := nat.Int(q)
	if e != api.OK {
		return 0, e
	}
	if away && len(r) > 0 {
		n++
	}
	if !inRange(n) {
		return 0, api.ErrOverflow
	}
	if a.Neg {
		n = -n
	}
	return n, api.OK
}
