package nat_test

import (
	"math"
	"math/big"
	"slices"
	"strings"
	"testing"

	"papermill/api"
	"papermill/nat"
)

const (
	top  = api.Limb - 1
	most = api.MaxLimbs
)

// filled is a list of count equal limbs.
func filled(count int, limb int) api.Nat { return slices.Repeat(api.Nat{limb}, count) }

// power is Limb to the power n.
func power(n int) api.Nat { return append(make(api.Nat, n), 1) }

// greatest is the greatest number that fits into count limbs.
func greatest(count int) api.Nat { return filled(count, top) }

func join(l ...api.Nat) api.Nat { return slices.Concat(l...) }

func toBig(a api.Nat) *big.Int {
	n := new(big.Int)
	for _, limb := range slices.Backward(a) {
		n.Add(n.Mul(n, big.NewInt(api.Limb)), big.NewInt(int64(limb)))
	}
	return n
}

func fromBig(n *big.Int) api.Nat {
	var a api.Nat
	rest, limb := new(big.Int).Set(n), new(big.Int)
	for rest.Sign() > 0 {
		rest.DivMod(rest, big.NewInt(api.Limb), limb)
		a = append(a, int(limb.Int64()))
	}
	return a
}

// limited is what a function must return whose result without limits is n.
func limited(n *big.Int) (api.Nat, api.Errno) {
	a := fromBig(n)
	if len(a) > most {
		return nil, api.ErrOverflow
	}
	return a, api.OK
}

func bigs(l []api.Nat) []*big.Int {
	var b []*big.Int
	for _, a := range l {
		b = append(b, toBig(a))
	}
	return b
}

// mixed has limbs without a pattern, which begin differently for each seed.
func mixed(count int, seed int) api.Nat {
	a := make(api.Nat, count)
	for i := range a {
		seed = (seed*1103515245 + 12345) % (1 << 31)
		a[i] = seed % api.Limb
	}
	if count > 0 {
		a[count-1] = a[count-1]%top + 1
	}
	return a
}

// lists are all lists of up to count limbs that are taken from the given ones, valid or not.
func lists(count int, limbs ...int) []api.Nat {
	l := []api.Nat{nil}
	from := 0
	for range count {
		to := len(l)
		for _, a := range l[from:to] {
			for _, limb := range limbs {
				l = append(l, append(slices.Clone(a), limb))
			}
		}
		from = to
	}
	return l
}

// fibonacci returns the last two numbers of its sequence with at most that many limbs: quotients in Euclid's algorithm are never smaller.
func fibonacci(limbs int) (api.Nat, api.Nat) {
	x, y := big.NewInt(1), big.NewInt(1)
	for {
		z := new(big.Int).Add(x, y)
		if len(fromBig(z)) > limbs {
			return fromBig(x), fromBig(y)
		}
		x, y = y, z
	}
}

// numbers are valid: small ones, and those whose limbs are at an end of their range, or that have as many limbs as there may be, or half as many.
func numbers() []api.Nat {
	l := []api.Nat{
		nil, {}, {1}, {2}, {3}, {7}, {10}, {12}, {18}, {97}, {api.Limb / 2}, {top - 1}, {top},
		{0, 1}, {1, 1}, {7, 1}, {top, 1}, {0, 2}, {0, api.Limb / 2}, {0, top}, {top - 1, top}, {top, top},
		{906842623, 1125899}, {906842624, 1125899}, {906842625, 1125899},
		{0, 0, 1}, {1, 0, 1}, {top, 0, 1}, {0, top, 1}, {top, top, 1}, {0, 0, top}, {1, top, top}, {0, top, top}, {top, 0, top}, {top, top, top},
		{854775806, 223372036, 9}, {854775807, 223372036, 9}, {854775808, 223372036, 9},
		{0, 0, 0, api.Limb / 2}, {top, top, top, api.Limb/2 - 1}, {0, 0, 0, 0, 0, 12}, {1, 0, 0, 0, 0, 18},
		mixed(3, 1), mixed(4, 2), mixed(5, 3), mixed(9, 4), mixed(10, 5), mixed(23, 6), mixed(24, 7), mixed(25, 8), mixed(47, 9), mixed(most, 10), mixed(most, 11),
		join(filled(10, 0), filled(10, top)), join(filled(10, top), filled(10, 0), api.Nat{1}), join(api.Nat{1}, filled(30, 0), api.Nat{5}),
		power(23), power(24), power(46), power(47), greatest(23), greatest(24), greatest(25), greatest(47), greatest(most),
		join(greatest(47), api.Nat{1}), join(filled(47, 0), api.Nat{top}), join(api.Nat{1}, filled(46, 0), api.Nat{1}), join(api.Nat{top - 1}, greatest(47)), join(greatest(47), api.Nat{top - 1}),
	}
	x, y := fibonacci(most)
	v, w := fibonacci(7)
	return append(l, x, y, v, w)
}

// invalids are not valid, each for another reason.
func invalids() []api.Nat {
	return []api.Nat{
		{0}, {0, 0}, {1, 0}, {top, top, 0}, {0, 1, 0}, filled(most, 0), append(greatest(47), 0),
		{-1}, {-1, 1}, {1, -1}, {5, -top, 5}, {math.MinInt}, {1, math.MinInt, 1}, append(greatest(47), -1), append(api.Nat{-1}, greatest(47)...),
		{api.Limb}, {api.Limb, 1}, {1, api.Limb}, {1, api.Limb + 1, 1}, {math.MaxInt}, {math.MaxInt, math.MaxInt}, {1, 1 << 32}, append(greatest(47), api.Limb), append(api.Nat{api.Limb}, greatest(47)...),
		power(most), greatest(most + 1), append(greatest(most), 0), filled(most+1, 0), append(greatest(most), -1), append(greatest(most), api.Limb), mixed(100, 12), filled(1000, 1),
	}
}

// binary is a function of two natural numbers that returns one.
type binary struct {
	name string
	f    func(a api.Nat, b api.Nat) (api.Nat, api.Errno)
}

func quotient(a api.Nat, b api.Nat) (api.Nat, api.Errno) {
	q, _, e := nat.DivMod(a, b)
	return q, e
}

func remainder(a api.Nat, b api.Nat) (api.Nat, api.Errno) {
	_, r, e := nat.DivMod(a, b)
	return r, e
}

func binaries() []binary {
	return []binary{{"Add", nat.Add}, {"Sub", nat.Sub}, {"Mul", nat.Mul}, {"DivMod (quotient)", quotient}, {"DivMod (remainder)", remainder}, {"Gcd", nat.Gcd}}
}

// agrees compares a function with what it must return for all pairs of numbers.
func agrees(t *testing.T, c binary, want func(a *big.Int, b *big.Int) (api.Nat, api.Errno)) {
	t.Helper()
	l := numbers()
	n := bigs(l)
	for i, a := range l {
		for j, b := range l {
			w, e := want(n[i], n[j])
			if r, f := c.f(a, b); !slices.Equal(r, w) || e != f {
				t.Errorf("%s(%d, %d) = %d, %d, not %d, %d", c.name, a, b, r, f, w, e)
			}
		}
	}
}

// P2.1

func TestValidNumbers(t *testing.T) {
	for _, a := range numbers() {
		if !nat.Valid(a) {
			t.Errorf("%d is valid", a)
		}
	}
}

func TestInvalidNumbers(t *testing.T) {
	for _, a := range invalids() {
		if nat.Valid(a) {
			t.Errorf("%d is not valid", a)
		}
	}
	for i := range most {
		for _, limb := range []int{-1, api.Limb, math.MinInt, math.MaxInt} {
			a := greatest(most)
			a[i] = limb
			if nat.Valid(a) {
				t.Errorf("limb %d of a valid number is %d", i, limb)
			}
		}
		if nat.Valid(append(greatest(i), 0)) {
			t.Errorf("the last one of %d limbs of a valid number is 0", i+1)
		}
	}
}

func TestValidListsAreDifferentNumbers(t *testing.T) {
	seen := map[string]api.Nat{}
	for _, a := range lists(3, -1, 0, 1, top, api.Limb) {
		inside := len(a) == 0 || slices.Min(a) >= 0 && slices.Max(a) <= top && a[len(a)-1] > 0
		if nat.Valid(a) != inside {
			t.Errorf("Valid(%d) = %t", a, !inside)
		}
		if !inside {
			continue
		}
		text := toBig(a).String()
		if b, found := seen[text]; found {
			t.Errorf("%d and %d are the same number", a, b)
		}
		seen[text] = a
	}
}

// P2.2

func TestInvalidArgumentOfOne(t *testing.T) {
	for _, a := range invalids() {
		if n, e := nat.Int(a); n != 0 || e != api.ErrForm {
			t.Errorf("Int(%d) = %d, %d", a, n, e)
		}
		if s, e := nat.Text(a); s != "" || e != api.ErrForm {
			t.Errorf("Text(%d) = %q, %d", a, s, e)
		}
	}
}

// The valid arguments are such that there is another error too: a difference below zero, a divisor of zero, or a result that is too great.
func TestInvalidArgumentsOfTwo(t *testing.T) {
	for _, bad := range invalids() {
		pairs := [][2]api.Nat{{bad, bad}}
		for _, good := range []api.Nat{nil, {1}, {0, 5}, greatest(most)} {
			pairs = append(pairs, [2]api.Nat{bad, good}, [2]api.Nat{good, bad})
		}
		for _, p := range pairs {
			for _, c := range binaries() {
				if r, e := c.f(p[0], p[1]); len(r) != 0 || e != api.ErrForm {
					t.Errorf("%s(%d, %d) = %d, %d", c.name, p[0], p[1], r, e)
				}
			}
			if n, e := nat.Cmp(p[0], p[1]); n != 0 || e != api.ErrForm {
				t.Errorf("Cmp(%d, %d) = %d, %d", p[0], p[1], n, e)
			}
		}
	}
}

func TestOverflow(t *testing.T) {
	add, mul := binary{"Add", nat.Add}, binary{"Mul", nat.Mul}
	for _, c := range []struct {
		f    binary
		a, b api.Nat
		r    api.Nat
		e    api.Errno
	}{
		{add, greatest(most), nil, greatest(most), api.OK},
		{add, join(api.Nat{top - 1}, greatest(47)), api.Nat{1}, greatest(most), api.OK},
		{add, greatest(47), api.Nat{1}, power(47), api.OK},
		{add, greatest(47), power(47), join(greatest(47), api.Nat{1}), api.OK},
		{add, join(filled(47, 0), api.Nat{top - 1}), power(47), join(filled(47, 0), api.Nat{top}), api.OK},
		{add, greatest(most), api.Nat{1}, nil, api.ErrOverflow},
		{add, join(filled(47, 0), api.Nat{top}), power(47), nil, api.ErrOverflow},
		{add, greatest(most), greatest(most), nil, api.ErrOverflow},
		{mul, greatest(most), api.Nat{1}, greatest(most), api.OK},
		{mul, greatest(most), nil, nil, api.OK},
		{mul, power(46), power(1), power(47), api.OK},
		{mul, power(23), power(24), power(47), api.OK},
		{mul, power(47), api.Nat{top}, join(filled(47, 0), api.Nat{top}), api.OK},
		{mul, greatest(24), greatest(24), join(api.Nat{1}, filled(23, 0), api.Nat{top - 1}, greatest(23)), api.OK},
		{mul, greatest(24), power(24), join(filled(24, 0), greatest(24)), api.OK},
		{mul, greatest(most), api.Nat{2}, nil, api.ErrOverflow},
		{mul, power(47), power(1), nil, api.ErrOverflow},
		{mul, power(24), power(24), nil, api.ErrOverflow},
		{mul, greatest(24), greatest(25), nil, api.ErrOverflow},
		{mul, greatest(most), greatest(most), nil, api.ErrOverflow},
	} {
		for _, p := range [][2]api.Nat{{c.a, c.b}, {c.b, c.a}} {
			if r, e := c.f.f(p[0], p[1]); !slices.Equal(r, c.r) || e != c.e {
				t.Errorf("%s(%d, %d) = %d, %d, not %d, %d", c.f.name, p[0], p[1], r, e, c.r, c.e)
			}
		}
	}
}

func TestResultsAreValid(t *testing.T) {
	l := numbers()
	for _, c := range binaries() {
		for _, a := range l {
			for _, b := range l {
				if r, _ := c.f(a, b); !nat.Valid(r) {
					t.Errorf("%s(%d, %d) = %d, which is not valid", c.name, a, b, r)
				}
			}
		}
	}
}

// P2.3

func TestOf(t *testing.T) {
	for _, c := range []struct {
		n int
		a api.Nat
		e api.Errno
	}{
		{0, nil, api.OK}, {1, api.Nat{1}, api.OK}, {top, api.Nat{top}, api.OK}, {api.Limb, api.Nat{0, 1}, api.OK}, {1000000007, api.Nat{7, 1}, api.OK},
		{5 * api.Limb, api.Nat{0, 5}, api.OK}, {api.Limb*api.Limb - 1, api.Nat{top, top}, api.OK}, {api.Limb * api.Limb, api.Nat{0, 0, 1}, api.OK}, {api.Limb*api.Limb + 5, api.Nat{5, 0, 1}, api.OK},
		{api.MaxNum, api.Nat{906842624, 1125899}, api.OK}, {api.MaxNum + 1, api.Nat{906842625, 1125899}, api.OK}, {math.MaxInt, api.Nat{854775807, 223372036, 9}, api.OK},
		{-1, nil, api.ErrRange}, {-api.Limb, nil, api.ErrRange}, {-api.MaxNum, nil, api.ErrRange}, {math.MinInt + 1, nil, api.ErrRange}, {math.MinInt, nil, api.ErrRange},
	} {
		if a, e := nat.Of(c.n); !slices.Equal(a, c.a) || e != c.e {
			t.Errorf("Of(%d) = %d, %d, not %d, %d", c.n, a, e, c.a, c.e)
		}
	}
}

func TestInt(t *testing.T) {
	for _, c := range []struct {
		a api.Nat
		n int
		e api.Errno
	}{
		{nil, 0, api.OK}, {api.Nat{}, 0, api.OK}, {api.Nat{1}, 1, api.OK}, {api.Nat{top}, top, api.OK}, {api.Nat{0, 1}, api.Limb, api.OK}, {api.Nat{7, 1}, 1000000007, api.OK},
		{api.Nat{906842623, 1125899}, api.MaxNum - 1, api.OK}, {api.Nat{906842624, 1125899}, api.MaxNum, api.OK}, {api.Nat{top, 1125898}, 1125899*api.Limb - 1, api.OK},
		{api.Nat{906842625, 1125899}, 0, api.ErrOverflow}, {api.Nat{0, 1125900}, 0, api.ErrOverflow}, {api.Nat{top, top}, 0, api.ErrOverflow}, {api.Nat{0, 0, 1}, 0, api.ErrOverflow},
		{api.Nat{854775807, 223372036, 9}, 0, api.ErrOverflow},
		// 2^63 and 2^64 in words of 64 bits would be negative and 0.
		{api.Nat{854775808, 223372036, 9}, 0, api.ErrOverflow}, {api.Nat{709551616, 446744073, 18}, 0, api.ErrOverflow}, {api.Nat{709551623, 446744073, 18}, 0, api.ErrOverflow},
		{power(47), 0, api.ErrOverflow}, {greatest(most), 0, api.ErrOverflow}, {join(api.Nat{5}, filled(46, 0), api.Nat{1}), 0, api.ErrOverflow},
	} {
		if n, e := nat.Int(c.a); n != c.n || e != c.e {
			t.Errorf("Int(%d) = %d, %d, not %d, %d", c.a, n, e, c.n, c.e)
		}
	}
}

func TestIntOfOf(t *testing.T) {
	for n := 1; n <= api.MaxNum; n = 2*n + n%3 {
		a, e := nat.Of(n)
		if m, f := nat.Int(a); e != api.OK || m != n || f != api.OK || !nat.Valid(a) {
			t.Errorf("Int(Of(%d)) = %d, %d", n, m, f)
		}
	}
}

// P2.4

func TestCmp(t *testing.T) {
	l := numbers()
	n := bigs(l)
	for i, a := range l {
		for j, b := range l {
			want := n[i].Cmp(n[j])
			if c, e := nat.Cmp(a, b); c != want || e != api.OK {
				t.Errorf("Cmp(%d, %d) = %d, %d, not %d", a, b, c, e, want)
			}
		}
	}
}

func TestCmpOfNumbersThatDifferInOneLimb(t *testing.T) {
	a := filled(most, 5)
	for i := range most {
		b := slices.Clone(a)
		b[i] = 6
		// The limbs before it say the contrary.
		for j := range i {
			b[j] = 4
		}
		c, e := nat.Cmp(a, b)
		d, f := nat.Cmp(b, a)
		if c != -1 || d != 1 || e != api.OK || f != api.OK {
			t.Errorf("limb %d is greater: Cmp = %d, %d and %d, %d", i, c, e, d, f)
		}
	}
}

// P2.5

func TestAdd(t *testing.T) {
	agrees(t, binary{"Add", nat.Add}, func(a *big.Int, b *big.Int) (api.Nat, api.Errno) { return limited(new(big.Int).Add(a, b)) })
}

func TestSub(t *testing.T) {
	agrees(t, binary{"Sub", nat.Sub}, func(a *big.Int, b *big.Int) (api.Nat, api.Errno) {
		if a.Cmp(b) < 0 {
			return nil, api.ErrRange
		}
		return limited(new(big.Int).Sub(a, b))
	})
}

func TestMul(t *testing.T) {
	agrees(t, binary{"Mul", nat.Mul}, func(a *big.Int, b *big.Int) (api.Nat, api.Errno) { return limited(new(big.Int).Mul(a, b)) })
}

func TestCarriesAndBorrowsThroughManyLimbs(t *testing.T) {
	for n := 1; n < most; n++ {
		if s, e := nat.Add(greatest(n), api.Nat{1}); !slices.Equal(s, power(n)) || e != api.OK {
			t.Errorf("%d limbs: Add = %d, %d", n, s, e)
		}
		if s, e := nat.Add(api.Nat{1}, greatest(n)); !slices.Equal(s, power(n)) || e != api.OK {
			t.Errorf("%d limbs: Add = %d, %d", n, s, e)
		}
		if d, e := nat.Sub(power(n), api.Nat{1}); !slices.Equal(d, greatest(n)) || e != api.OK {
			t.Errorf("%d limbs: Sub = %d, %d", n, d, e)
		}
		if d, e := nat.Sub(power(n), greatest(n)); !slices.Equal(d, api.Nat{1}) || e != api.OK {
			t.Errorf("%d limbs: Sub = %d, %d", n, d, e)
		}
		if d, e := nat.Sub(greatest(n), power(n)); len(d) != 0 || e != api.ErrRange {
			t.Errorf("%d limbs: Sub = %d, %d", n, d, e)
		}
		if p, e := nat.Mul(greatest(n), api.Nat{top}); !slices.Equal(p, join(api.Nat{1}, greatest(n-1), api.Nat{top - 1})) || e != api.OK {
			t.Errorf("%d limbs: Mul = %d, %d", n, p, e)
		}
	}
}

// P2.6

func TestDivModExamples(t *testing.T) {
	for _, c := range []struct {
		a, b, q, r api.Nat
		e          api.Errno
	}{
		{api.Nat{21, 3}, api.Nat{4}, api.Nat{750000005}, api.Nat{1}, api.OK},
		{nil, api.Nat{1}, nil, nil, api.OK},
		{nil, greatest(most), nil, nil, api.OK},
		{api.Nat{6}, api.Nat{7}, nil, api.Nat{6}, api.OK},
		{api.Nat{7}, api.Nat{7}, api.Nat{1}, nil, api.OK},
		{api.Nat{8}, api.Nat{7}, api.Nat{1}, api.Nat{1}, api.OK},
		{greatest(47), power(47), nil, greatest(47), api.OK},
		{join(api.Nat{top - 1}, greatest(47)), greatest(most), nil, join(api.Nat{top - 1}, greatest(47)), api.OK},
		{greatest(most), greatest(most), api.Nat{1}, nil, api.OK},
		{greatest(most), join(api.Nat{top - 1}, greatest(47)), api.Nat{1}, api.Nat{1}, api.OK},
		{greatest(most), api.Nat{1}, greatest(most), nil, api.OK},
		{greatest(most), power(47), api.Nat{top}, greatest(47), api.OK},
		{power(47), api.Nat{0, 1}, power(46), nil, api.OK},
		{power(47), greatest(24), power(23), power(23), api.OK},
		{nil, nil, nil, nil, api.ErrDivide},
		{api.Nat{1}, nil, nil, nil, api.ErrDivide},
		{greatest(most), api.Nat{}, nil, nil, api.ErrDivide},
	} {
		if q, r, e := nat.DivMod(c.a, c.b); !slices.Equal(q, c.q) || !slices.Equal(r, c.r) || e != c.e {
			t.Errorf("DivMod(%d, %d) = %d, %d, %d, not %d, %d, %d", c.a, c.b, q, r, e, c.q, c.r, c.e)
		}
	}
}

func TestDivMod(t *testing.T) {
	agrees(t, binary{"DivMod (quotient)", quotient}, func(a *big.Int, b *big.Int) (api.Nat, api.Errno) {
		if b.Sign() == 0 {
			return nil, api.ErrDivide
		}
		return limited(new(big.Int).Quo(a, b))
	})
	agrees(t, binary{"DivMod (remainder)", remainder}, func(a *big.Int, b *big.Int) (api.Nat, api.Errno) {
		if b.Sign() == 0 {
			return nil, api.ErrDivide
		}
		return limited(new(big.Int).Rem(a, b))
	})
}

// Quotients whose limbs are hard to guess from the first limbs of dividend and divisor have limbs near 0, half of Limb and Limb.
func TestDivModOfLimbsAtTheEnds(t *testing.T) {
	divisors := lists(3, 0, 1, api.Limb/2-1, api.Limb/2, top)
	dividends := lists(5, 0, 1, api.Limb/2, top)
	n := bigs(dividends)
	q, r := new(big.Int), new(big.Int)
	for _, b := range divisors {
		if !nat.Valid(b) || len(b) == 0 {
			continue
		}
		d := toBig(b)
		for i, a := range dividends {
			if !nat.Valid(a) || len(a) < len(b) {
				continue
			}
			q.QuoRem(n[i], d, r)
			x, y, e := nat.DivMod(a, b)
			if e != api.OK || !slices.Equal(x, fromBig(q)) || !slices.Equal(y, fromBig(r)) {
				t.Fatalf("DivMod(%d, %d) = %d, %d, %d, not %d, %d", a, b, x, y, e, fromBig(q), fromBig(r))
			}
		}
	}
}

// P2.7

func TestGcdExamples(t *testing.T) {
	for _, c := range []struct{ a, b, g api.Nat }{
		{api.Nat{12}, api.Nat{18}, api.Nat{6}},
		{nil, nil, nil},
		{api.Nat{5}, nil, api.Nat{5}},
		{nil, greatest(most), greatest(most)},
		{api.Nat{1}, greatest(most), api.Nat{1}},
		{greatest(most), greatest(most), greatest(most)},
		{greatest(24), greatest(most), greatest(24)},
		{greatest(32), greatest(most), greatest(16)},
		{power(23), power(47), power(23)},
		{power(47), greatest(most), api.Nat{1}},
		{api.Nat{0, 1}, api.Nat{48}, api.Nat{16}},
		{power(10), join(filled(9, 0), api.Nat{6, 5}), join(filled(9, 0), api.Nat{2})},
	} {
		for _, p := range [][2]api.Nat{{c.a, c.b}, {c.b, c.a}} {
			if g, e := nat.Gcd(p[0], p[1]); !slices.Equal(g, c.g) || e != api.OK {
				t.Errorf("Gcd(%d, %d) = %d, %d, not %d", p[0], p[1], g, e, c.g)
			}
		}
	}
}

func TestGcd(t *testing.T) {
	agrees(t, binary{"Gcd", nat.Gcd}, func(a *big.Int, b *big.Int) (api.Nat, api.Errno) { return limited(new(big.Int).GCD(nil, nil, a, b)) })
}

func TestGcdOfMultiples(t *testing.T) {
	for limbs := 1; limbs < most; limbs++ {
		x, y := fibonacci(limbs)
		// x and y have no common divisor, so that exactly the divisors of f divide both multiples.
		f := mixed(most-limbs, limbs)
		a, e := nat.Mul(x, f)
		b, d := nat.Mul(y, f)
		if e != api.OK || d != api.OK {
			t.Fatalf("%d limbs: Mul = %d, %d", limbs, e, d)
		}
		if g, e := nat.Gcd(a, b); !slices.Equal(g, f) || e != api.OK {
			t.Errorf("Gcd(%d, %d) = %d, %d, not %d", a, b, g, e, f)
		}
	}
}

func TestGcdOfManyPairs(t *testing.T) {
	small := lists(4, 0, 1, 999, api.Limb/2, top)
	n := bigs(small)
	for i := 0; i < len(small); i++ {
		for j := i % 7; j < len(small); j += 7 {
			a, b := small[i], small[j]
			if !nat.Valid(a) || !nat.Valid(b) {
				continue
			}
			want := fromBig(new(big.Int).GCD(nil, nil, n[i], n[j]))
			if g, e := nat.Gcd(a, b); !slices.Equal(g, want) || e != api.OK {
				t.Fatalf("Gcd(%d, %d) = %d, %d, not %d", a, b, g, e, want)
			}
		}
	}
	for seed := range 4000 {
		a, b := mixed(3+seed%9, seed), mixed(3+seed%5, seed+7919)
		want := fromBig(new(big.Int).GCD(nil, nil, toBig(a), toBig(b)))
		if g, e := nat.Gcd(a, b); !slices.Equal(g, want) || e != api.OK {
			t.Fatalf("Gcd(%d, %d) = %d, %d, not %d", a, b, g, e, want)
		}
	}
}

// P2.8

func TestText(t *testing.T) {
	for _, c := range []struct {
		a    api.Nat
		text string
	}{
		{nil, "0"}, {api.Nat{}, "0"}, {api.Nat{1}, "1"}, {api.Nat{10}, "10"}, {api.Nat{top}, "999999999"}, {api.Nat{0, 1}, "1000000000"}, {api.Nat{7, 1}, "1000000007"},
		{api.Nat{120, 0, 30}, "30000000000000000120"}, {api.Nat{100000000, 1, 12}, "12000000001100000000"},
		{power(47), "1" + strings.Repeat("0", 9*47)}, {greatest(most), strings.Repeat("9", 9*most)}, {filled(most, 1), "1" + strings.Repeat("000000001", 47)},
	} {
		if s, e := nat.Text(c.a); s != c.text || e != api.OK {
			t.Errorf("Text(%d) = %q, %d, not %q", c.a, s, e, c.text)
		}
		if a, e := nat.Parse(c.text); !slices.Equal(a, c.a) || e != api.OK {
			t.Errorf("Parse(%q) = %d, %d, not %d", c.text, a, e, c.a)
		}
	}
}

func TestParseOfText(t *testing.T) {
	for _, a := range numbers() {
		s, e := nat.Text(a)
		if e != api.OK || s != toBig(a).String() {
			t.Errorf("Text(%d) = %q, %d", a, s, e)
		}
		if b, e := nat.Parse(s); !slices.Equal(a, b) || e != api.OK || !nat.Valid(b) {
			t.Errorf("Parse(%q) = %d, %d, not %d", s, b, e, a)
		}
	}
}

func TestParseOfEachLength(t *testing.T) {
	for digits := 1; digits <= 9*most; digits++ {
		for _, s := range []string{strings.Repeat("9", digits), "1" + strings.Repeat("0", digits-1), strings.Repeat("1234567890", most)[:digits]} {
			n, _ := new(big.Int).SetString(s, 10)
			a, e := nat.Parse(s)
			if !slices.Equal(a, fromBig(n)) || e != api.OK {
				t.Errorf("Parse(%q) = %d, %d", s, a, e)
			}
			if text, e := nat.Text(a); text != s || e != api.OK {
				t.Errorf("Text(%d) = %q, %d, not %q", a, text, e, s)
			}
		}
	}
}

func TestParseErrors(t *testing.T) {
	long := strings.Repeat("9", 9*most)
	for _, c := range []struct {
		s string
		e api.Errno
	}{
		{"", api.ErrForm}, {"00", api.ErrForm}, {"007", api.ErrForm}, {"01", api.ErrForm}, {"0" + strings.Repeat("0", 9), api.ErrForm},
		{"-1", api.ErrForm}, {"-0", api.ErrForm}, {"+5", api.ErrForm}, {" 1", api.ErrForm}, {"1 ", api.ErrForm}, {"1\n", api.ErrForm}, {"1_000", api.ErrForm}, {"0x10", api.ErrForm}, {"1e3", api.ErrForm}, {"1.0", api.ErrForm}, {"12a", api.ErrForm}, {"a", api.ErrForm},
		{"/", api.ErrForm}, {":", api.ErrForm}, {"1/2", api.ErrForm}, {"1:", api.ErrForm}, {"\x00", api.ErrForm}, {"1\x00", api.ErrForm}, {"\xff", api.ErrForm}, {"\xb1", api.ErrForm}, {"\u0661", api.ErrForm}, {"\uff11", api.ErrForm},
		{long + "9", api.ErrOverflow}, {"1" + strings.Repeat("0", 9*most), api.ErrOverflow}, {long + long + long, api.ErrOverflow}, {strings.Repeat("1", 100000), api.ErrOverflow},
		{"0" + long, api.ErrForm}, {"0" + long + "9", api.ErrForm}, {"0" + long[1:], api.ErrForm}, {long + "x", api.ErrForm}, {"x" + long, api.ErrForm}, {long + long + " ", api.ErrForm}, {long[1:] + "-", api.ErrForm}, {strings.Repeat("0", 9*most+1), api.ErrForm},
	} {
		if a, e := nat.Parse(c.s); len(a) != 0 || e != c.e {
			t.Errorf("Parse(%q) = %d, %d, not %d", c.s, a, e, c.e)
		}
	}
	for b := range 256 {
		want := api.ErrForm
		if b >= '0' && b <= '9' {
			want = api.OK
		}
		for _, s := range []string{string([]byte{'1', byte(b)}), string([]byte{'1', byte(b), '2'})} {
			if _, e := nat.Parse(s); e != want {
				t.Errorf("Parse(%q): %d, not %d", s, e, want)
			}
		}
	}
}

// P2.9

func TestQuotientTimesDivisorPlusRemainder(t *testing.T) {
	l := numbers()
	for _, a := range l {
		for _, b := range l {
			if len(b) == 0 {
				continue
			}
			q, r, e := nat.DivMod(a, b)
			p, f := nat.Mul(q, b)
			s, g := nat.Add(p, r)
			if e != api.OK || f != api.OK || g != api.OK || !slices.Equal(s, a) {
				t.Errorf("%d * %d + %d = %d, not %d", q, b, r, s, a)
			}
			if c, e := nat.Cmp(r, b); c != -1 || e != api.OK {
				t.Errorf("the remainder of %d and %d is %d", a, b, r)
			}
		}
	}
}

func TestOrderOfOperands(t *testing.T) {
	l := numbers()
	for _, c := range []binary{{"Add", nat.Add}, {"Mul", nat.Mul}} {
		for _, a := range l {
			for _, b := range l {
				x, e := c.f(a, b)
				y, f := c.f(b, a)
				if e != f || !slices.Equal(x, y) {
					t.Errorf("%s of %d and %d: %d, %d and %d, %d", c.name, a, b, x, e, y, f)
				}
			}
		}
	}
}

func TestSubUndoesAdd(t *testing.T) {
	l := numbers()
	for _, a := range l {
		for _, b := range l {
			s, e := nat.Add(a, b)
			if e != api.OK {
				continue
			}
			if d, e := nat.Sub(s, b); e != api.OK || !slices.Equal(d, a) {
				t.Errorf("%d + %d - %d = %d, %d", a, b, b, d, e)
			}
		}
	}
}

// Rule 6 of the document: results are new memory, and arguments are not changed.

// roomy is a copy of a with room behind it, which a function might write to.
func roomy(a api.Nat) api.Nat { return join(a, filled(2*most, -5))[:len(a)] }

// untouched reports whether l is still what roomy returned for a.
func untouched(l api.Nat, a api.Nat) bool {
	return slices.Equal(l[:len(a)+2*most], join(a, filled(2*most, -5)))
}

// spoil also writes to the room behind l, which belongs to a result as well.
func spoil(l api.Nat) {
	l = l[:cap(l)]
	for i := range l {
		l[i] = -7
	}
}

func TestArgumentsAreNotChanged(t *testing.T) {
	l := numbers()
	for _, c := range binaries() {
		for _, a := range l {
			for _, b := range l {
				x, y := roomy(a), roomy(b)
				r, _ := c.f(x, y)
				spoil(r)
				if !untouched(x, a) || !untouched(y, b) {
					t.Fatalf("%s changes %d or %d, or its result shares their memory", c.name, a, b)
				}
			}
		}
	}
}

func TestResultsOfDivModShareNoMemory(t *testing.T) {
	l := numbers()
	for _, a := range l {
		for _, b := range l {
			q, r, _ := nat.DivMod(a, b)
			kept := slices.Clone(r)
			spoil(q)
			if !slices.Equal(r, kept) {
				t.Fatalf("quotient and remainder of %d and %d share memory", a, b)
			}
		}
	}
}
