package nat

import "papermill/api"

// steps are steps of Euclid's algorithm at once: they turn x and y into a * x + b * y and c * x + d * y.
type steps struct{ a, b, c, d int }

// gcd is Euclid's algorithm. Rational numbers need it all the time: as long as the numbers have many limbs, it takes many steps at once, as found by Lehmer.
func gcd(x api.Nat, y api.Nat) api.Nat {
	for len(y) > wordLimbs {
		x, y = shortened(x, y)
	}
	if len(y) == 0 {
		return copied(x, len(x))
	}
	_, r := divide(x, y)
	m, n := word(y), word(r)
	for n != 0 {
		m, n = n, m%n
	}
	return ofWord(m)
}

// shortened returns a later pair of Euclid's algorithm.
func shortened(x api.Nat, y api.Nat) (api.Nat, api.Nat) {
	s := foreseen(x, y)
	if s.b == 0 {
		_, r := divide(x, y)
		return y, r
	}
	return combined(x, s.a, y, s.b), combined(x, s.c, y, s.d)
}

// foreseen returns the steps that the last two limbs of both numbers decide, whatever the other limbs are: after each step the quotient of the pair is between (u + a) / (v + c) and (u + b) / (v + d). The loop ends while the factors of the steps are less than Limb.
func foreseen(x api.Nat, y api.Nat) steps {
	s := steps{a: 1, d: 1}
	if len(x) != len(y) {
		return s
	}
	u, v := word(x[len(x)-wordLimbs:]), word(y[len(y)-wordLimbs:])
	for v >= api.Limb {
		q := (u + s.a) / (v + s.c)
		if q != (u+s.b)/(v+s.d) {
			break
		}
		s = steps{s.c, s.d, s.a - q*s.c, s.b - q*s.d}
		u, v = v, u-q*v
	}
	return s
}

// combined returns m * x + n * y for x and y of the same length, of which it is known that it is not negative and not longer.
func combined(x api.Nat, m int, y api.Nat, n int) api.Nat {
	s := times(x, m)
	addTimes(s, y, n)
	return trimmed(s)
}
