package nat

import (
	"cmp"

	"papermill/api"
)

// wordLimbs is how many limbs an int always has room for.
const wordLimbs = 2

// copied returns a copy of a that is filled with zeros up to the length.
func copied(a api.Nat, length int) api.Nat {
	c := make(api.Nat, length)
	copy(c, a)
	return c
}

func trimmed(a api.Nat) api.Nat {
	for len(a) > 0 && a[len(a)-1] == 0 {
		a = a[:len(a)-1]
	}
	return a
}

func limited(a api.Nat) (api.Nat, api.Errno) {
	a = trimmed(a)
	if len(a) > api.MaxLimbs {
		return nil, api.ErrOverflow
	}
	return a, api.OK
}

// word expects at most wordLimbs limbs.
func word(a api.Nat) int {
	n := 0
	for i := range len(a) {
		n = n*api.Limb + a[len(a)-1-i]
	}
	return n
}

func ofWord(n int) api.Nat {
	var a api.Nat
	for n > 0 {
		a = append(a, n%api.Limb)
		n /= api.Limb
	}
	return a
}

func compare(a api.Nat, b api.Nat) int {
	if len(a) != len(b) {
		return cmp.Compare(len(a), len(b))
	}
	for i := range len(a) {
		if at := len(a) - 1 - i; a[at] != b[at] {
			return cmp.Compare(a[at], b[at])
		}
	}
	return 0
}

// addTimes adds n * a to s, which has more limbs than a; n is less than Limb and greater than -Limb. What is carried into the last limb of s stays there, so that it is negative if the sum is.
func addTimes(s api.Nat, a api.Nat, n int) {
	last := len(s) - 1
	carry := 0
	for i := range last {
		carry += s[i]
		if i < len(a) {
			carry += n * a[i]
		}
		s[i], carry = split(carry)
	}
	s[last] += carry
}

// split returns the limb of n and what is carried into the next one, which is negative if n is.
func split(n int) (int, int) {
	limb, carry := n%api.Limb, n/api.Limb
	if limb < 0 {
		return limb + api.Limb, carry - 1
	}
	return limb, carry
}

// divide returns quotient and remainder, limb by limb as on paper; b is not zero.
func divide(a api.Nat, b api.Nat) (api.Nat, api.Nat) {
	if len(a) < len(b) {
		return nil, copied(a, len(a))
	}
	if len(a) <= wordLimbs {
		return ofWord(word(a) / word(b)), ofWord(word(a) % word(b))
	}
	// A divisor whose last limb is at least half of Limb makes the guesses of takeOff good. The factor does not give it another limb.
	factor := api.Limb / (b[len(b)-1] + 1)
	rest, divisor := times(a, factor), times(b, factor)[:len(b)]
	q := make(api.Nat, len(a)-len(b)+1)
	for i := range len(q) {
		at := len(q) - 1 - i
		q[at] = takeOff(rest[at:at+len(b)+1], divisor)
	}
	return trimmed(q), trimmed(divided(rest, factor))
}

// times returns n * a with one limb more than a.
func times(a api.Nat, n int) api.Nat {
	p := make(api.Nat, len(a)+1)
	addTimes(p, a, n)
	return p
}

// divided returns a / n, which is a natural number; n is less than Limb.
func divided(a api.Nat, n int) api.Nat {
	q := make(api.Nat, len(a))
	rest := 0
	for i := range len(a) {
		at := len(a) - 1 - i
		rest = rest*api.Limb + a[at]
		q[at], rest = rest/n, rest%n
	}
	return q
}

// takeOff subtracts b from a as often as possible, which is less than Limb times, and returns how often. The last limb of b is at least half of Limb, and a has one limb more: the guess by their last limbs is never too small, and at most 2 too great.
func takeOff(a api.Nat, b api.Nat) int {
	last := len(b)
	n := min((a[last]*api.Limb+a[last-1])/b[last-1], api.Limb-1)
	addTimes(a, b, -n)
	for a[last] < 0 {
		n--
		addTimes(a, b, 1)
	}
	return n
}
