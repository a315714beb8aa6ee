package rat_test

import (
	"math"
	"math/big"
	"slices"
	"strings"
	"testing"

	"papermill/api"
	"papermill/nat"
	"papermill/rat"
)

const (
	top  = api.Limb - 1
	most = api.MaxLimbs
)

// power is Limb to the power n.
func power(n int) api.Nat { return append(make(api.Nat, n), 1) }

// greatest is the greatest number that fits into count limbs.
func greatest(count int) api.Nat { return slices.Repeat(api.Nat{top}, count) }

// greatestBut is the greatest number of MaxLimbs limbs less n, which is less than Limb.
func greatestBut(n int) api.Nat {
	a := greatest(most)
	a[0] -= n
	return a
}

func plus(p api.Nat, q api.Nat) api.Rat  { return api.Rat{P: p, Q: q} }
func minus(p api.Nat, q api.Nat) api.Rat { return api.Rat{Neg: true, P: p, Q: q} }

// small is p / q in lowest terms with less than two limbs; p and q are so already.
func small(p int, q int) api.Rat {
	a := api.Rat{Neg: p < 0, Q: api.Nat{q}}
	if p != 0 {
		a.P = api.Nat{max(p, -p)}
	}
	return a
}

func zero() api.Rat { return small(0, 1) }

func same(a api.Rat, b api.Rat) bool {
	return a.Neg == b.Neg && slices.Equal(a.P, b.P) && slices.Equal(a.Q, b.Q)
}

// isNone reports whether a is what is returned with an error.
func isNone(a api.Rat) bool { return same(a, api.Rat{}) }

func toBig(a api.Nat) *big.Int {
	text, _ := nat.Text(a)
	n, _ := new(big.Int).SetString(text, 10)
	return n
}

// fromBig expects a number that fits.
func fromBig(n *big.Int) api.Nat {
	a, _ := nat.Parse(n.String())
	return a
}

// fraction is a number of the tests' own: p has the sign.
type fraction struct{ p, q *big.Int }

func toFraction(a api.Rat) fraction {
	f := fraction{toBig(a.P), toBig(a.Q)}
	if a.Neg {
		f.p.Neg(f.p)
	}
	return f
}

// number returns f in lowest terms.
func (f fraction) number() api.Rat {
	r := new(big.Rat).SetFrac(f.p, f.q)
	return api.Rat{Neg: r.Sign() < 0, P: fromBig(new(big.Int).Abs(r.Num())), Q: fromBig(r.Denom())}
}

func (f fraction) inverse() fraction {
	if f.p.Sign() < 0 {
		return fraction{new(big.Int).Neg(f.q), new(big.Int).Neg(f.p)}
	}
	return fraction{f.q, f.p}
}

func product(a *big.Int, b *big.Int) *big.Int { return new(big.Int).Mul(a, b) }

// fit reports whether all numbers have at most MaxLimbs limbs.
func fit(l ...*big.Int) bool {
	limit := toBig(greatest(most))
	return !slices.ContainsFunc(l, func(n *big.Int) bool { return n.CmpAbs(limit) > 0 })
}

// fitting returns p / q in lowest terms, or an error if one of the parts does not fit.
func fitting(p *big.Int, q *big.Int, parts ...*big.Int) (api.Rat, api.Errno) {
	if !fit(parts...) || !fit(p, q) {
		return api.Rat{}, api.ErrOverflow
	}
	return fraction{p, q}.number(), api.OK
}

func wantAdd(a fraction, b fraction) (api.Rat, api.Errno) {
	x, y := product(a.p, b.q), product(b.p, a.q)
	return fitting(new(big.Int).Add(x, y), product(a.q, b.q), x, y)
}

func wantSub(a fraction, b fraction) (api.Rat, api.Errno) {
	return wantAdd(a, fraction{new(big.Int).Neg(b.p), b.q})
}

func wantMul(a fraction, b fraction) (api.Rat, api.Errno) {
	return fitting(product(a.p, b.p), product(a.q, b.q))
}

func wantDiv(a fraction, b fraction) (api.Rat, api.Errno) {
	if b.p.Sign() == 0 {
		return api.Rat{}, api.ErrDivide
	}
	return wantMul(a, b.inverse())
}

// binary is a function of two numbers that returns one, with what it must return.
type binary struct {
	name string
	f    func(a api.Rat, b api.Rat) (api.Rat, api.Errno)
	want func(a fraction, b fraction) (api.Rat, api.Errno)
}

func add() binary { return binary{"Add", rat.Add, wantAdd} }
func sub() binary { return binary{"Sub", rat.Sub, wantSub} }
func mul() binary { return binary{"Mul", rat.Mul, wantMul} }
func div() binary { return binary{"Div", rat.Div, wantDiv} }

func binaries() []binary { return []binary{add(), sub(), mul(), div()} }

// unary is a function of one number that returns an integer.
type unary struct {
	name string
	f    func(a api.Rat) (int, api.Errno)
}

func unaries() []unary { return []unary{{"Floor", rat.Floor}, {"Ceil", rat.Ceil}} }

// mixed has limbs without a pattern, which begin differently for each seed.
func mixed(count int, seed int) api.Nat {
	a := make(api.Nat, count)
	for i := range a {
		seed = (seed*1103515245 + 12345) % (1 << 31)
		a[i] = seed % api.Limb
	}
	a[count-1] = a[count-1]%top + 1
	return a
}

// numbers are valid: small ones, those near MaxNum, and those whose parts have as many limbs as there may be, or half as many, or one more. Each is there with both signs.
func numbers() []api.Rat {
	l := []api.Rat{zero()}
	for _, a := range []api.Rat{
		small(1, 1), small(2, 1), small(1, 2), small(3, 2), small(2, 3), small(1, 6), small(1, 10), small(7, 60), small(60, 7), small(top, 1), small(top, 2), small(1, top), small(top-1, top),
		plus(api.Nat{0, 1}, api.Nat{7}), plus(api.Nat{906842624, 1125899}, api.Nat{1}), plus(api.Nat{906842624, 1125899}, api.Nat{3}), plus(api.Nat{1}, api.Nat{906842624, 1125899}), plus(api.Nat{906842625, 1125899}, api.Nat{906842624, 1125899}),
		plus(power(23), api.Nat{1}), plus(power(24), api.Nat{1}), plus(greatest(24), api.Nat{1}), plus(power(24), greatest(24)), plus(greatest(24), power(23)), plus(api.Nat{1}, power(23)), plus(api.Nat{1}, power(24)), plus(api.Nat{1}, greatest(24)), plus(power(25), greatest(23)),
		plus(greatest(most), api.Nat{1}), plus(greatest(most), api.Nat{2}), plus(api.Nat{1}, greatest(most)), plus(power(47), api.Nat{1}), plus(api.Nat{1}, power(47)), plus(power(47), greatest(most)), plus(greatest(47), power(47)),
		fraction{toBig(mixed(3, 1)), toBig(mixed(2, 2))}.number(), fraction{toBig(mixed(20, 3)), toBig(mixed(24, 4))}.number(), fraction{toBig(mixed(most, 5)), toBig(mixed(most, 6))}.number(),
	} {
		l = append(l, a, minus(a.P, a.Q))
	}
	return l
}

// invalids are not valid, each for another reason.
func invalids() []api.Rat {
	return []api.Rat{
		{}, {Neg: true}, plus(nil, api.Nat{}), plus(api.Nat{1}, nil), minus(api.Nat{1}, nil), plus(api.Nat{7}, nil), plus(greatest(most), api.Nat{}),
		minus(nil, api.Nat{1}), minus(api.Nat{}, api.Nat{1}),
		plus(nil, api.Nat{2}), plus(nil, greatest(most)), minus(nil, api.Nat{2}),
		plus(api.Nat{6}, api.Nat{4}), minus(api.Nat{6}, api.Nat{4}), plus(api.Nat{2}, api.Nat{2}), plus(api.Nat{top}, api.Nat{top}), plus(api.Nat{0, 1}, api.Nat{2}), plus(api.Nat{5}, api.Nat{0, 1}), plus(power(47), power(1)), plus(greatest(most), greatest(24)), plus(greatest(most), greatest(most)), plus(api.Nat{9}, greatest(most)),
		plus(api.Nat{0}, api.Nat{1}), plus(api.Nat{1}, api.Nat{0}), plus(api.Nat{1, 0}, api.Nat{1}), plus(api.Nat{1}, api.Nat{1, 0}),
		plus(api.Nat{-1}, api.Nat{2}), plus(api.Nat{1}, api.Nat{-2}), plus(api.Nat{1, -1}, api.Nat{1}), plus(api.Nat{math.MinInt}, api.Nat{1}), plus(api.Nat{1}, api.Nat{math.MinInt}),
		plus(api.Nat{api.Limb}, api.Nat{1}), plus(api.Nat{1}, api.Nat{api.Limb}), plus(api.Nat{1}, api.Nat{math.MaxInt}), plus(api.Nat{math.MaxInt, 1}, api.Nat{1}),
		plus(power(most), api.Nat{1}), plus(api.Nat{1}, power(most)), plus(greatest(most+1), api.Nat{2}), plus(append(greatest(most), 0), api.Nat{1}), plus(api.Nat{1}, append(greatest(most), 0)), plus(nil, make(api.Nat, 1000)),
	}
}

// agrees compares a function with what it must return for all pairs of numbers.
func agrees(t *testing.T, c binary) {
	t.Helper()
	l := numbers()
	for _, a := range l {
		for _, b := range l {
			w, e := c.want(toFraction(a), toFraction(b))
			if r, f := c.f(a, b); !same(r, w) || e != f {
				t.Errorf("%s(%v, %v) = %v, %d, not %v, %d", c.name, a, b, r, f, w, e)
			}
		}
	}
}

// call is a call of a function of two numbers with its results.
type call struct {
	a, b api.Rat
	r    api.Rat
	e    api.Errno
}

// returns compares a function with the results of calls.
func returns(t *testing.T, f func(a api.Rat, b api.Rat) (api.Rat, api.Errno), l []call) {
	t.Helper()
	for i, c := range l {
		if r, e := f(c.a, c.b); !same(r, c.r) || e != c.e {
			t.Errorf("call %d: %v and %v: %v, %d, not %v, %d", i, c.a, c.b, r, e, c.r, c.e)
		}
	}
}

func lack(a api.Rat, b api.Rat) call { return call{a, b, api.Rat{}, api.ErrOverflow} }

// P3.1

func TestValidNumbers(t *testing.T) {
	for _, a := range numbers() {
		if !rat.Valid(a) {
			t.Errorf("%v is valid", a)
		}
	}
	if !rat.Valid(api.Rat{P: api.Nat{}, Q: api.Nat{1}}) {
		t.Error("zero is valid")
	}
}

func TestInvalidNumbers(t *testing.T) {
	for _, a := range invalids() {
		if rat.Valid(a) {
			t.Errorf("%v is not valid", a)
		}
	}
}

func TestValidSmallNumbers(t *testing.T) {
	for p := range 40 {
		for q := range 40 {
			for _, negative := range []bool{false, true} {
				x, _ := nat.Of(p)
				y, _ := nat.Of(q)
				want := q > 0 && new(big.Int).GCD(nil, nil, big.NewInt(int64(p)), big.NewInt(int64(q))).Int64() == 1 && !(negative && p == 0)
				if rat.Valid(api.Rat{Neg: negative, P: x, Q: y}) != want {
					t.Errorf("Valid of %d / %d, negative: %t, is not %t", p, q, negative, want)
				}
			}
		}
	}
}

// The valid arguments are such that there is another error too: a divisor of zero, or a result that is too great.
func TestInvalidArguments(t *testing.T) {
	for _, bad := range invalids() {
		pairs := [][2]api.Rat{{bad, bad}}
		for _, good := range []api.Rat{zero(), small(1, 1), small(-3, 2), plus(greatest(most), api.Nat{2}), minus(api.Nat{2}, greatest(most))} {
			pairs = append(pairs, [2]api.Rat{bad, good}, [2]api.Rat{good, bad})
		}
		for _, p := range pairs {
			for _, c := range binaries() {
				if r, e := c.f(p[0], p[1]); !isNone(r) || e != api.ErrForm {
					t.Errorf("%s(%v, %v) = %v, %d", c.name, p[0], p[1], r, e)
				}
			}
			if n, e := rat.Cmp(p[0], p[1]); n != 0 || e != api.ErrForm {
				t.Errorf("Cmp(%v, %v) = %d, %d", p[0], p[1], n, e)
			}
		}
		if r, e := rat.Neg(bad); !isNone(r) || e != api.ErrForm {
			t.Errorf("Neg(%v) = %v, %d", bad, r, e)
		}
		for _, c := range unaries() {
			if n, e := c.f(bad); n != 0 || e != api.ErrForm {
				t.Errorf("%s(%v) = %d, %d", c.name, bad, n, e)
			}
		}
		if s, e := rat.Text(bad); s != "" || e != api.ErrForm {
			t.Errorf("Text(%v) = %q, %d", bad, s, e)
		}
	}
}

// P3.2

func TestOf(t *testing.T) {
	for _, c := range []struct {
		n int
		a api.Rat
		e api.Errno
	}{
		{0, zero(), api.OK}, {1, small(1, 1), api.OK}, {-1, small(-1, 1), api.OK}, {top, small(top, 1), api.OK}, {-api.Limb, minus(api.Nat{0, 1}, api.Nat{1}), api.OK}, {2000000007, plus(api.Nat{7, 2}, api.Nat{1}), api.OK},
		{api.MaxNum - 1, plus(api.Nat{906842623, 1125899}, api.Nat{1}), api.OK}, {api.MaxNum, plus(api.Nat{906842624, 1125899}, api.Nat{1}), api.OK}, {-api.MaxNum, minus(api.Nat{906842624, 1125899}, api.Nat{1}), api.OK},
		{api.MaxNum + 1, api.Rat{}, api.ErrRange}, {-api.MaxNum - 1, api.Rat{}, api.ErrRange}, {math.MaxInt, api.Rat{}, api.ErrRange}, {math.MinInt + 1, api.Rat{}, api.ErrRange}, {math.MinInt, api.Rat{}, api.ErrRange},
	} {
		if a, e := rat.Of(c.n); !same(a, c.a) || e != c.e {
			t.Errorf("Of(%d) = %v, %d, not %v, %d", c.n, a, e, c.a, c.e)
		}
	}
}

// P3.3

func TestMakeExamples(t *testing.T) {
	number := plus(api.Nat{906842624, 1125899}, api.Nat{1})
	for _, c := range []struct {
		p, q int
		a    api.Rat
		e    api.Errno
	}{
		{6, -4, small(-3, 2), api.OK}, {-6, 4, small(-3, 2), api.OK}, {-6, -4, small(3, 2), api.OK}, {6, 4, small(3, 2), api.OK}, {-8, -2, small(4, 1), api.OK}, {8, -2, small(-4, 1), api.OK},
		{0, -7, zero(), api.OK}, {0, 7, zero(), api.OK}, {0, api.MaxNum, zero(), api.OK}, {0, -api.MaxNum, zero(), api.OK},
		{api.MaxNum, 1, number, api.OK}, {api.MaxNum, -1, minus(number.P, number.Q), api.OK}, {1, api.MaxNum, plus(api.Nat{1}, number.P), api.OK}, {1, -api.MaxNum, minus(api.Nat{1}, number.P), api.OK}, {-api.MaxNum, -api.MaxNum, small(1, 1), api.OK}, {-api.MaxNum, api.MaxNum, small(-1, 1), api.OK}, {api.MaxNum, 1 << 20, plus(api.Nat{73741824, 1}, api.Nat{1}), api.OK},
		{0, 0, api.Rat{}, api.ErrDivide}, {1, 0, api.Rat{}, api.ErrDivide}, {api.MaxNum, 0, api.Rat{}, api.ErrDivide}, {-api.MaxNum, 0, api.Rat{}, api.ErrDivide},
		{api.MaxNum + 1, 0, api.Rat{}, api.ErrRange}, {-api.MaxNum - 1, 0, api.Rat{}, api.ErrRange}, {math.MinInt, 0, api.Rat{}, api.ErrRange},
		{api.MaxNum + 1, 1, api.Rat{}, api.ErrRange}, {-api.MaxNum - 1, 1, api.Rat{}, api.ErrRange}, {1, api.MaxNum + 1, api.Rat{}, api.ErrRange}, {1, -api.MaxNum - 1, api.Rat{}, api.ErrRange}, {0, api.MaxNum + 1, api.Rat{}, api.ErrRange},
		{api.MaxNum + 1, api.MaxNum + 1, api.Rat{}, api.ErrRange}, {math.MinInt, math.MinInt, api.Rat{}, api.ErrRange}, {math.MaxInt, 1, api.Rat{}, api.ErrRange}, {1, math.MinInt, api.Rat{}, api.ErrRange}, {1, math.MaxInt, api.Rat{}, api.ErrRange}, {2 * api.MaxNum, 2, api.Rat{}, api.ErrRange},
	} {
		if a, e := rat.Make(c.p, c.q); !same(a, c.a) || e != c.e {
			t.Errorf("Make(%d, %d) = %v, %d, not %v, %d", c.p, c.q, a, e, c.a, c.e)
		}
	}
}

func TestMake(t *testing.T) {
	l := []int{1, 2, 3, 4, 6, 12, 60, 97, top, api.Limb, 123456789 * 1000, 1 << 49, api.MaxNum / 3, api.MaxNum - 1, api.MaxNum}
	for _, n := range slices.Clone(l) {
		l = append(l, -n)
	}
	for _, p := range append(l, 0) {
		for _, q := range l {
			f := fraction{big.NewInt(int64(p)), big.NewInt(int64(q))}
			if a, e := rat.Make(p, q); !same(a, f.number()) || e != api.OK {
				t.Errorf("Make(%d, %d) = %v, %d", p, q, a, e)
			}
		}
	}
}

// P3.4

func TestAddExamples(t *testing.T) {
	returns(t, rat.Add, []call{
		{small(1, 6), small(1, 10), small(4, 15), api.OK},
		{small(1, 6), small(-1, 10), small(1, 15), api.OK},
		{small(-1, 6), small(1, 10), small(-1, 15), api.OK},
		{small(-1, 6), small(-1, 10), small(-4, 15), api.OK},
		{small(1, 10), small(-1, 6), small(-1, 15), api.OK},
		{small(-1, 10), small(1, 6), small(1, 15), api.OK},
		{small(3, 2), small(-3, 2), zero(), api.OK},
		{small(-3, 2), small(3, 2), zero(), api.OK},
		{small(1, 2), small(1, 2), small(1, 1), api.OK},
		{zero(), zero(), zero(), api.OK},
		{zero(), small(-3, 2), small(-3, 2), api.OK},
		{small(-3, 2), zero(), small(-3, 2), api.OK},
		{zero(), plus(power(47), greatest(most)), plus(power(47), greatest(most)), api.OK},
		{minus(power(47), greatest(most)), zero(), minus(power(47), greatest(most)), api.OK},
	})
}

func TestAddOfProductsThatDoNotFit(t *testing.T) {
	one, two := api.Nat{1}, api.Nat{2}
	half := append(slices.Repeat(api.Nat{top}, 47), api.Limb/2-1)
	returns(t, rat.Add, []call{
		// P1 * Q2, or P2 * Q1, has 48 and 49 limbs.
		{plus(power(23), one), plus(one, power(24)), plus(append(append(api.Nat{1}, make(api.Nat, 46)...), 1), power(24)), api.OK},
		lack(plus(power(24), one), plus(one, power(24))),
		{plus(one, power(24)), plus(power(23), one), plus(append(append(api.Nat{1}, make(api.Nat, 46)...), 1), power(24)), api.OK},
		lack(plus(one, power(24)), plus(power(24), one)),
		lack(plus(power(24), one), minus(one, power(24))),
		lack(plus(one, power(24)), minus(power(24), one)),
		lack(plus(greatest(most), one), small(1, 2)),
		lack(small(1, 2), plus(greatest(most), one)),
		{plus(half, one), small(1, 2), plus(greatest(most), two), api.OK},
		// Q1 * Q2 has 48 and 49 limbs, also if the result has fewer.
		{plus(one, power(23)), minus(one, power(24)), plus(greatest(1), power(24)), api.OK},
		lack(plus(one, power(24)), plus(one, power(24))),
		lack(plus(one, power(24)), minus(one, power(24))),
		lack(plus(one, greatest(most)), small(1, 2)),
		lack(small(-1, 2), plus(one, greatest(most))),
	})
}

func TestAddOfSumsThatDoNotFit(t *testing.T) {
	one, two := api.Nat{1}, api.Nat{2}
	// Twice these odd numbers fit, four times only the first one.
	quarter := append(append(api.Nat{1}, make(api.Nat, 46)...), api.Limb/4-1)
	beyond := append(append(api.Nat{1}, make(api.Nat, 46)...), api.Limb/4)
	full := plus(greatest(most), one)
	returns(t, rat.Add, []call{
		{plus(greatestBut(1), one), small(1, 1), full, api.OK},
		{small(-1, 1), minus(greatestBut(1), one), minus(greatest(most), one), api.OK},
		lack(full, small(1, 1)),
		lack(small(1, 1), full),
		lack(minus(greatest(most), one), small(-1, 1)),
		lack(full, full),
		// With different signs there is only a difference.
		{full, small(-1, 1), plus(greatestBut(1), one), api.OK},
		{small(1, 1), minus(greatest(most), one), minus(greatestBut(1), one), api.OK},
		{full, minus(greatest(most), one), zero(), api.OK},
		// The sum is refused before it is reduced.
		{plus(quarter, two), plus(quarter, two), plus(quarter, one), api.OK},
		lack(plus(beyond, two), plus(beyond, two)),
		lack(minus(beyond, two), minus(beyond, two)),
		{plus(beyond, two), minus(beyond, two), zero(), api.OK},
	})
}

func TestAdd(t *testing.T) { agrees(t, add()) }

// P3.5

func TestSubExamples(t *testing.T) {
	one := api.Nat{1}
	returns(t, rat.Sub, []call{
		{small(1, 6), small(-1, 10), small(4, 15), api.OK},
		{small(1, 6), small(1, 10), small(1, 15), api.OK},
		{small(-1, 6), small(1, 10), small(-4, 15), api.OK},
		{small(1, 10), small(1, 6), small(-1, 15), api.OK},
		{small(-3, 2), small(-3, 2), zero(), api.OK},
		{zero(), zero(), zero(), api.OK},
		{small(-3, 2), zero(), small(-3, 2), api.OK},
		{zero(), small(3, 2), small(-3, 2), api.OK},
		{zero(), small(-3, 2), small(3, 2), api.OK},
		{plus(greatest(most), one), plus(greatest(most), one), zero(), api.OK},
		lack(plus(greatest(most), one), small(-1, 1)),
		lack(minus(greatest(most), one), small(1, 1)),
		lack(plus(power(24), one), plus(one, power(24))),
		lack(plus(one, power(24)), plus(power(24), one)),
		lack(plus(one, power(24)), plus(one, power(24))),
	})
}

func TestSub(t *testing.T) { agrees(t, sub()) }

// P3.6

func TestMulExamples(t *testing.T) {
	one := api.Nat{1}
	returns(t, rat.Mul, []call{
		{small(1, 6), small(-1, 10), small(-1, 60), api.OK},
		{small(-2, 3), small(-3, 4), small(1, 2), api.OK},
		{small(2, 3), small(3, 2), small(1, 1), api.OK},
		{zero(), small(-3, 2), zero(), api.OK},
		{small(-3, 2), zero(), zero(), api.OK},
		{zero(), zero(), zero(), api.OK},
		{zero(), minus(one, greatest(most)), zero(), api.OK},
		{minus(greatest(most), one), zero(), zero(), api.OK},
		{plus(power(23), one), minus(power(24), one), minus(power(47), one), api.OK},
		lack(plus(power(24), one), minus(power(24), one)),
		{plus(one, power(23)), plus(one, power(24)), plus(one, power(47)), api.OK},
		lack(plus(one, power(24)), plus(one, power(24))),
		{plus(power(47), one), plus(one, power(47)), small(1, 1), api.OK},
		// The products are refused before they are reduced.
		lack(plus(power(24), greatest(24)), plus(greatest(25), power(24))),
		{plus(power(24), greatest(24)), plus(greatest(24), power(23)), plus(power(1), one), api.OK},
		lack(plus(greatest(most), one), small(2, top)),
		lack(small(top, 2), plus(one, greatest(most))),
		lack(plus(greatest(most), api.Nat{2}), small(2, 1)),
		lack(plus(api.Nat{2}, greatest(most)), small(1, 2)),
	})
}

func TestMul(t *testing.T) { agrees(t, mul()) }

// P3.7

func TestDivExamples(t *testing.T) {
	one := api.Nat{1}
	returns(t, rat.Div, []call{
		{small(1, 6), small(-1, 10), small(-5, 3), api.OK},
		{small(-1, 6), small(-1, 10), small(5, 3), api.OK},
		{small(-1, 6), small(1, 10), small(-5, 3), api.OK},
		{small(3, 2), small(3, 2), small(1, 1), api.OK},
		{zero(), small(-1, 10), zero(), api.OK},
		{zero(), minus(greatest(most), one), zero(), api.OK},
		{zero(), zero(), api.Rat{}, api.ErrDivide},
		{small(1, 6), zero(), api.Rat{}, api.ErrDivide},
		{plus(greatest(most), api.Nat{2}), zero(), api.Rat{}, api.ErrDivide},
		{minus(api.Nat{2}, greatest(most)), api.Rat{P: api.Nat{}, Q: one}, api.Rat{}, api.ErrDivide},
		{plus(power(23), one), minus(one, power(24)), minus(power(47), one), api.OK},
		lack(plus(power(24), one), minus(one, power(24))),
		{plus(one, power(23)), plus(power(24), one), plus(one, power(47)), api.OK},
		lack(plus(one, power(24)), plus(power(24), one)),
		{plus(greatest(most), one), plus(greatest(most), one), small(1, 1), api.OK},
		lack(plus(power(24), greatest(25)), plus(power(24), greatest(25))),
	})
}

func TestDiv(t *testing.T) { agrees(t, div()) }

// P3.8

func TestNeg(t *testing.T) {
	for _, a := range numbers() {
		want := api.Rat{Neg: !a.Neg && len(a.P) > 0, P: a.P, Q: a.Q}
		if r, e := rat.Neg(a); !same(r, want) || e != api.OK {
			t.Errorf("Neg(%v) = %v, %d", a, r, e)
		}
	}
	if r, e := rat.Neg(zero()); !same(r, zero()) || e != api.OK {
		t.Errorf("Neg of zero is %v, %d", r, e)
	}
}

// P3.9

func TestCmpExamples(t *testing.T) {
	one := api.Nat{1}
	for _, c := range []struct {
		a, b api.Rat
		n    int
		e    api.Errno
	}{
		{small(-3, 2), small(-4, 3), -1, api.OK}, {small(3, 2), small(4, 3), 1, api.OK}, {small(-3, 2), small(4, 3), -1, api.OK}, {small(3, 2), small(-4, 3), 1, api.OK}, {small(-1, 2), small(2, 1), -1, api.OK}, {small(2, 1), small(-5, 1), 1, api.OK},
		{zero(), zero(), 0, api.OK}, {zero(), small(-1, 7), 1, api.OK}, {small(-1, 7), zero(), -1, api.OK}, {zero(), small(1, 7), -1, api.OK}, {small(1, 7), zero(), 1, api.OK}, {small(-3, 2), small(-3, 2), 0, api.OK},
		{plus(greatest(most), one), plus(greatestBut(1), one), 1, api.OK}, {minus(one, greatest(most)), minus(one, greatestBut(2)), 1, api.OK},
		{plus(one, power(47)), plus(one, greatest(most)), 1, api.OK}, {plus(one, greatest(most)), minus(one, greatest(most)), 1, api.OK},
		{zero(), minus(greatest(most), api.Nat{2}), 1, api.OK}, {plus(api.Nat{2}, greatest(most)), zero(), 1, api.OK},
		// P1 * Q2, or P2 * Q1, has 48 and 49 limbs.
		{plus(power(23), one), plus(one, power(24)), 1, api.OK}, {plus(power(24), one), plus(one, power(24)), 0, api.ErrOverflow}, {plus(one, power(24)), plus(power(23), one), -1, api.OK}, {plus(one, power(24)), plus(power(24), one), 0, api.ErrOverflow},
		{plus(power(23), one), minus(one, power(24)), 1, api.OK}, {plus(power(24), one), minus(one, power(24)), 0, api.ErrOverflow}, {minus(power(24), one), plus(one, power(24)), 0, api.ErrOverflow},
		{minus(one, power(24)), plus(power(23), one), -1, api.OK}, {minus(one, power(24)), plus(power(24), one), 0, api.ErrOverflow}, {plus(one, power(24)), minus(power(24), one), 0, api.ErrOverflow},
		{minus(power(24), one), minus(one, power(24)), 0, api.ErrOverflow}, {minus(one, power(24)), minus(power(24), one), 0, api.ErrOverflow},
		{plus(greatest(25), power(24)), plus(greatest(25), power(24)), 0, api.ErrOverflow},
	} {
		if n, e := rat.Cmp(c.a, c.b); n != c.n || e != c.e {
			t.Errorf("Cmp(%v, %v) = %d, %d, not %d, %d", c.a, c.b, n, e, c.n, c.e)
		}
	}
}

func TestCmp(t *testing.T) {
	l := numbers()
	for _, a := range l {
		for _, b := range l {
			f, g := toFraction(a), toFraction(b)
			x, y := product(f.p, g.q), product(g.p, f.q)
			want, code := x.Cmp(y), api.OK
			if !fit(x, y) {
				want, code = 0, api.ErrOverflow
			}
			if n, e := rat.Cmp(a, b); n != want || e != code {
				t.Errorf("Cmp(%v, %v) = %d, %d, not %d, %d", a, b, n, e, want, code)
			}
		}
	}
}

// P3.10

func TestFloorCeilExamples(t *testing.T) {
	most, beyond := api.Nat{906842624, 1125899}, api.Nat{906842625, 1125899}
	// Twice MaxNum, and 1 more or less.
	double, more, less := api.Nat{813685248, 2251799}, api.Nat{813685249, 2251799}, api.Nat{813685247, 2251799}
	one, two := api.Nat{1}, api.Nat{2}
	type result struct {
		n int
		e api.Errno
	}
	lack := result{0, api.ErrOverflow}
	for _, c := range []struct {
		a           api.Rat
		floor, ceil result
	}{
		{small(-3, 2), result{-2, api.OK}, result{-1, api.OK}}, {small(3, 2), result{1, api.OK}, result{2, api.OK}}, {small(1, 9), result{0, api.OK}, result{1, api.OK}}, {small(-1, 9), result{-1, api.OK}, result{0, api.OK}},
		{zero(), result{0, api.OK}, result{0, api.OK}}, {small(7, 1), result{7, api.OK}, result{7, api.OK}}, {small(-7, 1), result{-7, api.OK}, result{-7, api.OK}}, {small(top, 10), result{99999999, api.OK}, result{100000000, api.OK}},
		{plus(most, one), result{api.MaxNum, api.OK}, result{api.MaxNum, api.OK}}, {minus(most, one), result{-api.MaxNum, api.OK}, result{-api.MaxNum, api.OK}},
		{plus(beyond, one), lack, lack}, {minus(beyond, one), lack, lack},
		{plus(less, two), result{api.MaxNum - 1, api.OK}, result{api.MaxNum, api.OK}}, {minus(less, two), result{-api.MaxNum, api.OK}, result{1 - api.MaxNum, api.OK}},
		{plus(more, two), result{api.MaxNum, api.OK}, lack}, {minus(more, two), lack, result{-api.MaxNum, api.OK}},
		{plus(double, one), lack, lack}, {minus(double, one), lack, lack}, {minus(power(47), greatest(2)), lack, lack},
		{plus(one, greatest(api.MaxLimbs)), result{0, api.OK}, result{1, api.OK}}, {minus(one, greatest(api.MaxLimbs)), result{-1, api.OK}, result{0, api.OK}},
		{plus(greatest(api.MaxLimbs), one), lack, lack}, {minus(greatest(api.MaxLimbs), two), lack, lack},
		{plus(greatest(api.MaxLimbs), power(47)), result{top, api.OK}, result{api.Limb, api.OK}}, {minus(greatest(api.MaxLimbs), power(47)), result{-api.Limb, api.OK}, result{-top, api.OK}},
	} {
		n, e := rat.Floor(c.a)
		m, f := rat.Ceil(c.a)
		if (result{n, e}) != c.floor || (result{m, f}) != c.ceil {
			t.Errorf("%v: Floor = %d, %d, Ceil = %d, %d, not %v, %v", c.a, n, e, m, f, c.floor, c.ceil)
		}
	}
}

func TestFloorCeil(t *testing.T) {
	limited := func(n *big.Int) (int, api.Errno) {
		if n.CmpAbs(big.NewInt(api.MaxNum)) > 0 {
			return 0, api.ErrOverflow
		}
		return int(n.Int64()), api.OK
	}
	for _, a := range numbers() {
		f := toFraction(a)
		// Div of package big rounds down if the divisor is positive.
		down := new(big.Int).Div(f.p, f.q)
		up := new(big.Int).Neg(new(big.Int).Div(new(big.Int).Neg(f.p), f.q))
		n, e := limited(down)
		if r, f := rat.Floor(a); r != n || f != e {
			t.Errorf("Floor(%v) = %d, %d, not %d, %d", a, r, f, n, e)
		}
		n, e = limited(up)
		if r, f := rat.Ceil(a); r != n || f != e {
			t.Errorf("Ceil(%v) = %d, %d, not %d, %d", a, r, f, n, e)
		}
	}
}

// P3.11

func repeated(count int, a api.Rat) []api.Rat { return slices.Repeat([]api.Rat{a}, count) }

func TestSumExamples(t *testing.T) {
	full := plus(greatest(most), api.Nat{1})
	third := small(1, 3)
	for i, c := range []struct {
		l []api.Rat
		s api.Rat
		e api.Errno
	}{
		{nil, zero(), api.OK}, {[]api.Rat{}, zero(), api.OK}, {[]api.Rat{zero()}, zero(), api.OK}, {[]api.Rat{small(-3, 2)}, small(-3, 2), api.OK}, {[]api.Rat{full}, full, api.OK},
		{[]api.Rat{third, small(-1, 2), third}, small(1, 6), api.OK}, {[]api.Rat{third, third, third}, small(1, 1), api.OK}, {[]api.Rat{third, small(-1, 3)}, zero(), api.OK},
		{repeated(4096, third), plus(api.Nat{4096}, api.Nat{3}), api.OK}, {repeated(4096, small(-1, 4096)), small(-1, 1), api.OK}, {repeated(4096, zero()), zero(), api.OK},
		{repeated(4097, third), api.Rat{}, api.ErrFull}, {repeated(4097, zero()), api.Rat{}, api.ErrFull}, {repeated(4097, api.Rat{}), api.Rat{}, api.ErrFull}, {repeated(4097, full), api.Rat{}, api.ErrFull}, {repeated(100000, third), api.Rat{}, api.ErrFull},
		{repeated(1, api.Rat{}), api.Rat{}, api.ErrForm}, {repeated(4096, api.Rat{}), api.Rat{}, api.ErrForm}, {append(repeated(4095, third), small(2, 4)), api.Rat{}, api.ErrForm}, {append([]api.Rat{minus(nil, api.Nat{1})}, repeated(4095, third)...), api.Rat{}, api.ErrForm},
		// An element that is not valid comes before an addition that does not fit.
		{[]api.Rat{full, full, small(2, 4)}, api.Rat{}, api.ErrForm}, {[]api.Rat{full, full, {}, full}, api.Rat{}, api.ErrForm}, {[]api.Rat{{}, full, full}, api.Rat{}, api.ErrForm},
		// The additions are those from the first element on.
		{[]api.Rat{full, small(1, 1)}, api.Rat{}, api.ErrOverflow}, {[]api.Rat{full, small(1, 1), small(-1, 1)}, api.Rat{}, api.ErrOverflow}, {[]api.Rat{full, small(-1, 1), small(1, 1)}, full, api.OK}, {[]api.Rat{small(1, 1), small(-1, 1), full}, full, api.OK},
		{[]api.Rat{full, third}, api.Rat{}, api.ErrOverflow}, {[]api.Rat{third, small(-1, 3), full}, full, api.OK}, {[]api.Rat{third, full, small(-1, 3)}, api.Rat{}, api.ErrOverflow}, {[]api.Rat{full, third, small(-1, 3)}, api.Rat{}, api.ErrOverflow}, {repeated(2, plus(api.Nat{1}, power(24))), api.Rat{}, api.ErrOverflow},
		{repeated(4096, full), api.Rat{}, api.ErrOverflow},
	} {
		if s, e := rat.Sum(c.l); !same(s, c.s) || e != c.e {
			t.Errorf("list %d: Sum = %v, %d, not %v, %d", i, s, e, c.s, c.e)
		}
	}
}

func TestSumRefusesInvalidElements(t *testing.T) {
	for _, bad := range invalids() {
		for at := range 5 {
			l := repeated(5, small(1, 7))
			l[at] = bad
			if s, e := rat.Sum(l); !isNone(s) || e != api.ErrForm {
				t.Errorf("Sum with %v at %d is %v, %d", bad, at, s, e)
			}
		}
	}
}

func TestSum(t *testing.T) {
	var l []api.Rat
	want := new(big.Rat)
	for n := 1; n <= 40; n++ {
		p, q := int64(n%7-3), int64(n*n%60+1)
		a, e := rat.Make(int(p), int(q))
		if e != api.OK {
			t.Fatalf("Make(%d, %d): %d", p, q, e)
		}
		l = append(l, a)
		want.Add(want, big.NewRat(p, q))
		if s, e := rat.Sum(l); !same(s, fraction{want.Num(), want.Denom()}.number()) || e != api.OK {
			t.Errorf("Sum(%v) = %v, %d, not %v", l, s, e, want)
		}
	}
}

// P3.12

func TestText(t *testing.T) {
	for _, c := range []struct {
		a    api.Rat
		text string
	}{
		{zero(), "0"}, {small(1, 1), "1"}, {small(-1, 1), "-1"}, {small(-3, 2), "-3/2"}, {small(3, 2), "3/2"}, {small(1, 10), "1/10"}, {small(-10, 11), "-10/11"},
		{plus(api.Nat{7, 1}, api.Nat{1}), "1000000007"}, {plus(api.Nat{1}, api.Nat{0, 1}), "1/1000000000"}, {plus(api.Nat{3}, api.Nat{1, 1}), "3/1000000001"},
		{minus(greatest(most), power(47)), "-" + strings.Repeat("9", 9*most) + "/1" + strings.Repeat("0", 9*47)},
		{minus(greatest(most), api.Nat{1}), "-" + strings.Repeat("9", 9*most)},
		{plus(api.Nat{1}, greatest(most)), "1/" + strings.Repeat("9", 9*most)},
	} {
		if s, e := rat.Text(c.a); s != c.text || e != api.OK {
			t.Errorf("Text(%v) = %q, %d, not %q", c.a, s, e, c.text)
		}
	}
	for _, a := range numbers() {
		f := toFraction(a)
		want := new(big.Rat).SetFrac(f.p, f.q).RatString()
		if s, e := rat.Text(a); s != want || e != api.OK {
			t.Errorf("Text(%v) = %q, %d, not %q", a, s, e, want)
		}
	}
}

// P3.13

func TestOrderOfArguments(t *testing.T) {
	l := numbers()
	for _, c := range []binary{add(), mul()} {
		for _, a := range l {
			for _, b := range l {
				x, e := c.f(a, b)
				y, f := c.f(b, a)
				if !same(x, y) || e != f {
					t.Errorf("%s of %v and %v: %v, %d and %v, %d", c.name, a, b, x, e, y, f)
				}
			}
		}
	}
}

// undone reports whether the second function returns a from the result of the first one for a and b, if none of them returns an error.
func undone(a api.Rat, b api.Rat, first binary, second binary) bool {
	r, e := first.f(a, b)
	if e != api.OK {
		return true
	}
	s, e := second.f(r, b)
	return e != api.OK || same(s, a)
}

func TestSubUndoesAddAndDivUndoesMul(t *testing.T) {
	l := numbers()
	for _, a := range l {
		for _, b := range l {
			if !undone(a, b, add(), sub()) || !undone(a, b, sub(), add()) {
				t.Errorf("%v and %v: Sub does not undo Add", a, b)
			}
			if len(b.P) > 0 && (!undone(a, b, mul(), div()) || !undone(a, b, div(), mul())) {
				t.Errorf("%v and %v: Div does not undo Mul", a, b)
			}
		}
		if r, e := rat.Sub(a, a); e == api.OK && !same(r, zero()) {
			t.Errorf("%v - %v = %v", a, a, r)
		}
	}
}

// expanded returns a * b + a * c, and whether no call returned an error.
func expanded(a api.Rat, b api.Rat, c api.Rat) (api.Rat, bool) {
	x, e := rat.Mul(a, b)
	y, f := rat.Mul(a, c)
	s, g := rat.Add(x, y)
	return s, e == api.OK && f == api.OK && g == api.OK
}

func TestProductsOfSums(t *testing.T) {
	l := numbers()[:35]
	compared := 0
	for _, a := range l {
		for _, b := range l {
			for _, c := range l {
				s, e := rat.Add(b, c)
				p, f := rat.Mul(a, s)
				want, fine := expanded(a, b, c)
				if e != api.OK || f != api.OK || !fine {
					continue
				}
				compared++
				if !same(p, want) {
					t.Errorf("%v * (%v + %v) = %v, not %v", a, b, c, p, want)
				}
			}
		}
	}
	if compared < 35*35*35 {
		t.Errorf("only %d of these small numbers have no error", compared)
	}
}

// P3.14

func TestCmpIsTheSignOfTheDifference(t *testing.T) {
	l := numbers()
	for _, a := range l {
		for _, b := range l {
			n, e := rat.Cmp(a, b)
			m, f := rat.Cmp(b, a)
			if e != f || n != -m {
				t.Errorf("Cmp of %v and %v: %d, %d and %d, %d", a, b, n, e, m, f)
			}
			d, f := rat.Sub(a, b)
			if e != api.OK || f != api.OK {
				continue
			}
			if sign := toFraction(d).p.Sign(); n != sign {
				t.Errorf("Cmp(%v, %v) = %d, but the sign of the difference is %d", a, b, n, sign)
			}
		}
	}
}

func TestNumbersAreBetweenFloorAndCeil(t *testing.T) {
	for _, a := range numbers() {
		low, e := rat.Floor(a)
		high, f := rat.Ceil(a)
		if e != api.OK || f != api.OK {
			continue
		}
		x, _ := rat.Of(low)
		y, _ := rat.Of(high)
		n, e := rat.Cmp(x, a)
		m, f := rat.Cmp(a, y)
		if e == api.OK && n > 0 || f == api.OK && m > 0 {
			t.Errorf("%v is not from %d to %d", a, low, high)
		}
		gap := 1
		if same(a, api.Rat{Neg: a.Neg, P: a.P, Q: api.Nat{1}}) {
			gap = 0
		}
		if high-low != gap {
			t.Errorf("Floor(%v) and Ceil are %d and %d", a, low, high)
		}
	}
}

// P3.15

func TestResultsAreValid(t *testing.T) {
	l := numbers()
	for _, a := range l {
		for _, b := range l {
			for _, c := range binaries() {
				if r, e := c.f(a, b); rat.Valid(r) != (e == api.OK) {
					t.Errorf("%s(%v, %v) = %v, %d", c.name, a, b, r, e)
				}
			}
			if s, e := rat.Sum([]api.Rat{a, b}); rat.Valid(s) != (e == api.OK) {
				t.Errorf("Sum of %v and %v is %v, %d", a, b, s, e)
			}
		}
		if r, e := rat.Neg(a); !rat.Valid(r) || e != api.OK {
			t.Errorf("Neg(%v) = %v, %d", a, r, e)
		}
	}
	for p := -30; p <= 30; p++ {
		for q := -30; q <= 30; q++ {
			if a, e := rat.Make(p, q); rat.Valid(a) != (e == api.OK) {
				t.Errorf("Make(%d, %d) = %v, %d", p, q, a, e)
			}
		}
	}
}

func TestEqualTextsAreEqualNumbers(t *testing.T) {
	l := numbers()
	for p := -12; p <= 12; p++ {
		for q := 1; q <= 12; q++ {
			a, _ := rat.Make(p, q)
			l = append(l, a)
		}
	}
	for _, a := range l {
		for _, b := range l {
			f, g := toFraction(a), toFraction(b)
			equal := product(f.p, g.q).Cmp(product(g.p, f.q)) == 0
			s, _ := rat.Text(a)
			x, _ := rat.Text(b)
			if (s == x) != equal || same(a, b) != equal {
				t.Errorf("%v and %v have the texts %q and %q", a, b, s, x)
			}
		}
	}
}

// Rule 6 of the document: results are new memory, and arguments are not changed.

// roomy is a copy of a with room behind its parts, which a function might write to.
func roomy(a api.Rat) api.Rat {
	return api.Rat{Neg: a.Neg, P: slices.Concat(a.P, room())[:len(a.P)], Q: slices.Concat(a.Q, room())[:len(a.Q)]}
}

func room() api.Nat { return slices.Repeat(api.Nat{-5}, 2*most) }

func untouched(part api.Nat, kept api.Nat) bool {
	return slices.Equal(part[:len(kept)+2*most], slices.Concat(kept, room()))
}

// isKept reports whether a is still what roomy returned for kept.
func isKept(a api.Rat, kept api.Rat) bool {
	return a.Neg == kept.Neg && untouched(a.P, kept.P) && untouched(a.Q, kept.Q)
}

// spoil also writes to the room behind l, which belongs to a result as well.
func spoil(l api.Nat) {
	l = l[:cap(l)]
	for i := range l {
		l[i] = -7
	}
}

// shares reports whether the parts of a result share memory.
func shares(r api.Rat) bool {
	kept := slices.Clone(r.Q)
	spoil(r.P)
	return !slices.Equal(r.Q, kept)
}

func TestArgumentsAreNotChanged(t *testing.T) {
	l := numbers()
	for _, a := range l {
		for _, b := range l {
			for _, c := range append(binaries(), binary{name: "Sum", f: func(a api.Rat, b api.Rat) (api.Rat, api.Errno) { return rat.Sum([]api.Rat{a, b}) }}) {
				x, y := roomy(a), roomy(b)
				r, _ := c.f(x, y)
				if shares(r) {
					t.Fatalf("the parts of %s of %v and %v share memory", c.name, a, b)
				}
				spoil(r.Q)
				if !isKept(x, a) || !isKept(y, b) {
					t.Fatalf("%s changes %v or %v, or its result shares their memory", c.name, a, b)
				}
			}
			x, y := roomy(a), roomy(b)
			rat.Cmp(x, y)
			if !isKept(x, a) || !isKept(y, b) {
				t.Fatalf("Cmp changes %v or %v", a, b)
			}
		}
	}
}

func TestTheArgumentIsNotChanged(t *testing.T) {
	for _, a := range numbers() {
		x := roomy(a)
		rat.Valid(x)
		rat.Floor(x)
		rat.Ceil(x)
		rat.Text(x)
		if !isKept(x, a) {
			t.Fatalf("%v is changed", a)
		}
		for _, f := range []func(a api.Rat) (api.Rat, api.Errno){rat.Neg, func(a api.Rat) (api.Rat, api.Errno) { return rat.Sum([]api.Rat{a}) }} {
			r, _ := f(x)
			if shares(r) {
				t.Fatalf("the parts of the result for %v share memory", a)
			}
			spoil(r.Q)
			if !isKept(x, a) {
				t.Fatalf("%v is changed, or the result shares its memory", a)
			}
		}
	}
}
