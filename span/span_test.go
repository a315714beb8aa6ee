package span_test

import (
	"math"
	"slices"
	"testing"

	"papermill/api"
	"papermill/span"
)

const (
	end  = api.MaxLength
	most = api.MaxSpans
)

// spans takes the ends of the spans one after the other.
func spans(ends ...int) []api.Span {
	var l []api.Span
	for i := 0; i < len(ends); i += 2 {
		l = append(l, api.Span{From: ends[i], To: ends[i+1]})
	}
	return l
}

// comb has count spans of length integers, which begin at first and every step integers behind it.
func comb(count int, first int, step int, length int) []api.Span {
	l := make([]api.Span, count)
	for i := range l {
		l[i] = api.Span{From: first + i*step, To: first + i*step + length}
	}
	return l
}

// repeated is one span, count times.
func repeated(count int, from int, to int) []api.Span {
	return slices.Repeat(spans(from, to), count)
}

func reversed(l []api.Span) []api.Span {
	l = slices.Clone(l)
	slices.Reverse(l)
	return l
}

// shifted moves spans without limits.
func shifted(l []api.Span, by int) []api.Span {
	l = slices.Clone(l)
	for i := range l {
		l[i].From += by
		l[i].To += by
	}
	return l
}

// minInt and maxInt are one span with ends near the smallest and the greatest int.
func minInt(a int, b int) []api.Span { return spans(math.MinInt+a, math.MinInt+b) }
func maxInt(a int, b int) []api.Span { return spans(math.MaxInt-a, math.MaxInt-b) }

// outside are single spans that are out of range, each for another reason or at another end.
func outside() []api.Span {
	return slices.Concat(
		spans(3, 2, 1, 0, end, end-1, end, 0),
		spans(-1, 0, -1, 2, -1, -1, -2, -1, 0, -1, -1, -2, -1, end, -1, end+1),
		spans(end, end+1, 0, end+1, end+1, end+1, end+1, end+2, end+1, end, end+1, 0, end+1, -1),
		minInt(0, 0), minInt(0, 1), minInt(1, 0), maxInt(0, 0), maxInt(0, 1), maxInt(1, 0),
		spans(math.MinInt, math.MaxInt, math.MaxInt, math.MinInt, 0, math.MaxInt, math.MaxInt, 0, math.MinInt, 0, 0, math.MinInt, end, math.MaxInt, math.MinInt, end),
	)
}

// tooMany are lists with more spans than there may be, some of them only because of empty or repeated ones, or with spans that are out of range.
func tooMany() [][]api.Span {
	return [][]api.Span{
		comb(most+1, 0, 2, 1), repeated(most+1, 0, 0), repeated(most+1, 0, end), repeated(most+1, 7, 9), repeated(1000, 5, 5), comb(100000, 0, 3, 2),
		repeated(most+1, 3, 2), repeated(most+1, -1, 0), repeated(most+1, 0, end+1), repeated(most+1, math.MinInt, math.MaxInt),
		append(spans(3, 2), comb(most, 0, 2, 1)...), append(comb(most, 0, 2, 1), spans(0, end+1)...),
	}
}

// binary is a function of two lists with what it leaves.
type binary struct {
	name string
	f    func(a []api.Span, b []api.Span) ([]api.Span, api.Errno)
	left func(inA bool, inB bool) bool
}

func binaries() []binary {
	return []binary{
		{"Union", span.Union, func(inA bool, inB bool) bool { return inA || inB }},
		{"Common", span.Common, func(inA bool, inB bool) bool { return inA && inB }},
		{"Minus", span.Minus, func(inA bool, inB bool) bool { return inA && !inB }},
	}
}

// unary is a function of one list; of Total's result nothing is kept but whether it is 0.
type unary struct {
	name string
	f    func(l []api.Span) ([]api.Span, api.Errno)
}

func unaries() []unary {
	move := func(by int) func(l []api.Span) ([]api.Span, api.Errno) {
		return func(l []api.Span) ([]api.Span, api.Errno) { return span.Move(l, by) }
	}
	total := func(l []api.Span) ([]api.Span, api.Errno) {
		n, e := span.Total(l)
		return slices.Repeat(spans(0, 0), min(max(n, -n), 1)), e
	}
	return []unary{
		{"Norm", span.Norm}, {"Total", total},
		{"Move by 0", move(0)}, {"Move by 1", move(1)}, {"Move by -1", move(-1)}, {"Move beyond the end", move(end + 1)}, {"Move by the smallest int", move(math.MinInt)}, {"Move by the greatest int", move(math.MaxInt)},
	}
}

// refused reports an error unless a function returns the error and nothing else.
func refused(t *testing.T, name string, l []api.Span, e api.Errno, want api.Errno) {
	t.Helper()
	if len(l) != 0 || e != want {
		t.Errorf("%s: %d spans, %d, not %d", name, len(l), e, want)
	}
}

// returned reports an error unless a function returns these spans.
func returned(t *testing.T, name string, l []api.Span, e api.Errno, want []api.Span) {
	t.Helper()
	if !slices.Equal(l, want) || e != api.OK {
		t.Errorf("%s: %v, %d, not %v", name, l, e, want)
	}
}

// P4.1

func TestCheckAccepts(t *testing.T) {
	for i, l := range [][]api.Span{
		nil, {}, spans(0, 0), spans(0, 1), spans(3, 7), spans(end, end), spans(end-1, end), spans(0, end), spans(5, 5),
		spans(5, 9, 2, 3), spans(0, end, 0, end, 4, 4), spans(1, 8, 3, 4, 8, 9),
		comb(most, 0, 2, 1), repeated(most, 0, 0), repeated(most, 0, end), repeated(most, end, end), reversed(comb(most, 9, 1, 5)),
	} {
		if e := span.Check(l); e != api.OK {
			t.Errorf("list %d: Check = %d", i, e)
		}
	}
}

func TestCheckRefusesSpansOutOfRange(t *testing.T) {
	for _, s := range outside() {
		for _, l := range [][]api.Span{{s}, {s, {From: 1, To: 2}}, {{From: 1, To: 2}, s}, {{}, s, {}}, append(comb(most-1, 0, 2, 1), s), append([]api.Span{s}, repeated(most-1, 0, 0)...)} {
			if e := span.Check(l); e != api.ErrRange {
				t.Errorf("Check of %d spans with %v = %d", len(l), s, e)
			}
		}
	}
}

func TestCheckRefusesTooManySpans(t *testing.T) {
	for i, l := range tooMany() {
		if e := span.Check(l); e != api.ErrFull {
			t.Errorf("list %d: Check = %d", i, e)
		}
	}
	for _, s := range outside() {
		if e := span.Check(slices.Repeat([]api.Span{s}, most+1)); e != api.ErrFull {
			t.Errorf("Check of too many spans %v = %d", s, e)
		}
	}
}

func TestFunctionsOfOneListReturnTheErrorOfCheck(t *testing.T) {
	for _, c := range unaries() {
		for _, l := range tooMany() {
			r, e := c.f(l)
			refused(t, c.name, r, e, api.ErrFull)
		}
		for _, s := range outside() {
			for _, l := range [][]api.Span{{s}, {{From: 1, To: 2}, s}, {s, {From: 1, To: 2}}, append(comb(most-1, 0, 2, 1), s)} {
				r, e := c.f(l)
				refused(t, c.name, r, e, api.ErrRange)
			}
		}
	}
}

// Each list that Check refuses comes with each list that it accepts, also with those that together have too many spans for a result of Union or Minus.
func TestFunctionsOfTwoListsReturnTheErrorOfCheck(t *testing.T) {
	fine := [][]api.Span{nil, spans(4, 4), spans(1, 2, 7, 9), spans(0, end), comb(most, 0, 4, 1), comb(most, 2, 4, 1)}
	for _, c := range binaries() {
		for _, good := range fine {
			for _, bad := range tooMany() {
				l, e := c.f(bad, good)
				refused(t, c.name+" with a bad first list", l, e, api.ErrFull)
				l, e = c.f(good, bad)
				refused(t, c.name+" with a bad second list", l, e, api.ErrFull)
			}
			for _, s := range outside() {
				for _, bad := range [][]api.Span{{s}, {{From: 1, To: 2}, s}, {s, {From: 1, To: 2}}, append(comb(most-1, 2, 4, 1), s)} {
					l, e := c.f(bad, good)
					refused(t, c.name+" with a bad first list", l, e, api.ErrRange)
					l, e = c.f(good, bad)
					refused(t, c.name+" with a bad second list", l, e, api.ErrRange)
				}
			}
		}
	}
}

func TestTheFirstListIsCheckedBeforeTheSecond(t *testing.T) {
	for _, c := range binaries() {
		for _, many := range tooMany() {
			for _, s := range outside() {
				l, e := c.f(many, []api.Span{s})
				refused(t, c.name+" of too many spans and one out of range", l, e, api.ErrFull)
				l, e = c.f([]api.Span{s}, many)
				refused(t, c.name+" of a span out of range and too many", l, e, api.ErrRange)
			}
			l, e := c.f(many, many)
			refused(t, c.name+" of too many spans twice", l, e, api.ErrFull)
		}
		for _, s := range outside() {
			l, e := c.f([]api.Span{s}, []api.Span{s})
			refused(t, c.name+" of a span out of range twice", l, e, api.ErrRange)
		}
	}
}

// P4.2

func TestNormExamples(t *testing.T) {
	for _, c := range []struct {
		name string
		l, n []api.Span
	}{
		{"nil", nil, nil}, {"no spans", []api.Span{}, nil},
		{"an empty span at 0", spans(0, 0), nil}, {"an empty span", spans(7, 7), nil}, {"an empty span at the end", spans(end, end), nil}, {"empty spans", spans(9, 9, 0, 0, 9, 9, end, end), nil}, {"all spans are empty", comb(most, 0, 1, 0), nil},
		{"the example", spans(5, 7, 0, 2, 2, 3, 4, 4), spans(0, 3, 5, 7)},
		{"one span", spans(3, 8), spans(3, 8)}, {"one integer", spans(3, 4), spans(3, 4)}, {"0 alone", spans(0, 1), spans(0, 1)}, {"the last integer", spans(end-1, end), spans(end-1, end)}, {"everything", spans(0, end), spans(0, end)},
		{"spans in descending order", spans(9, 12, 5, 6, 0, 2), spans(0, 2, 5, 6, 9, 12)},
		{"neighbours that touch", spans(0, 5, 5, 9), spans(0, 9)}, {"neighbours that touch, the last one first", spans(5, 9, 0, 5), spans(0, 9)}, {"a gap of one integer", spans(0, 5, 6, 9), spans(0, 5, 6, 9)}, {"a gap at 0", spans(1, 2), spans(1, 2)},
		{"spans that overlap", spans(0, 5, 4, 9), spans(0, 9)}, {"overlaps that begin at one place", spans(2, 5, 2, 9), spans(2, 9)}, {"overlaps that end at one place", spans(2, 9, 5, 9), spans(2, 9)}, {"a span in another", spans(2, 9, 4, 5), spans(2, 9)}, {"a span in another, before it", spans(4, 5, 2, 9), spans(2, 9)}, {"spans that repeat", spans(2, 4, 7, 8, 2, 4, 7, 8), spans(2, 4, 7, 8)},
		{"spans in a long one, and one behind it", spans(0, 10, 1, 2, 3, 4, 11, 12), spans(0, 10, 11, 12)}, {"a chain", spans(6, 8, 0, 3, 2, 5, 4, 7), spans(0, 8)},
		{"an empty span within another", spans(2, 6, 4, 4), spans(2, 6)}, {"an empty span before it", spans(4, 4, 2, 6), spans(2, 6)}, {"an empty span where another begins", spans(2, 2, 2, 6), spans(2, 6)}, {"an empty span where another ends", spans(6, 6, 2, 6), spans(2, 6)}, {"an empty span between neighbours that touch", spans(5, 5, 0, 5, 5, 9), spans(0, 9)}, {"an empty span in a gap", spans(0, 5, 5, 5, 6, 6, 6, 9), spans(0, 5, 6, 9)},
		{"both ends", spans(end-1, end, 0, 1), spans(0, 1, end-1, end)}, {"everything in parts", spans(end-1, end, 0, 1, 1, end-1), spans(0, end)}, {"everything and empty ends", spans(0, 0, end, end, 0, end), spans(0, end)}, {"all but one integer", spans(8, end, 0, 7), spans(0, 7, 8, end)},
		{"as many spans as there may be", comb(most, 0, 2, 1), comb(most, 0, 2, 1)}, {"as many, in descending order", reversed(comb(most, 0, 2, 1)), comb(most, 0, 2, 1)}, {"as many, which touch", comb(most, 3, 5, 5), spans(3, 3+5*most)}, {"as many, which overlap", reversed(comb(most, 3, 5, 6)), spans(3, 4+5*most)}, {"as many, up to the end", comb(most, end-2*most+1, 2, 1), comb(most, end-2*most+1, 2, 1)}, {"as many times everything", repeated(most, 0, end), spans(0, end)},
	} {
		l, e := span.Norm(c.l)
		returned(t, c.name, l, e, c.n)
	}
}

// universe is how many integers marks looks at.
const universe = 40

// marks tells for each integer from first on whether it is in one of the spans.
func marks(l []api.Span, first int) [universe]bool {
	var in [universe]bool
	for _, s := range l {
		for x := s.From; x < s.To; x++ {
			in[x-first] = true
		}
	}
	return in
}

// normal is the normal form of marked integers.
func normal(in [universe]bool, first int) []api.Span {
	var l []api.Span
	for i, is := range in {
		x := first + i
		switch {
		case !is:
		case i > 0 && in[i-1]:
			l[len(l)-1].To++
		default:
			l = append(l, api.Span{From: x, To: x + 1})
		}
	}
	return l
}

// want is the normal form of what is left of the marked integers of two lists.
func want(a []api.Span, b []api.Span, first int, left func(inA bool, inB bool) bool) []api.Span {
	in, inB := marks(a, first), marks(b, first)
	for i := range in {
		in[i] = left(in[i], inB[i])
	}
	return normal(in, first)
}

// firsts are where the universe of the tests begins: at 0, somewhere, and so that it ends at MaxLength.
func firsts() []int { return []int{0, 123456789, end - universe} }

// short are all lists of at most two spans with ends from 0 to 4, also empty, repeated and overlapping ones, in both orders.
func short() [][]api.Span {
	var single []api.Span
	for from := 0; from <= 4; from++ {
		for to := from; to <= 4; to++ {
			single = append(single, api.Span{From: from, To: to})
		}
	}
	l := [][]api.Span{nil}
	for _, s := range single {
		l = append(l, []api.Span{s})
		for _, r := range single {
			l = append(l, []api.Span{s, r})
		}
	}
	return l
}

// long are lists without a pattern: of few spans up to 30, and of short ones up to long ones, at the beginning of the universe.
func long() [][]api.Span {
	var lists [][]api.Span
	seed := 1
	below := func(n int) int {
		seed = (seed*1103515245 + 12345) % (1 << 31)
		return seed >> 8 % n
	}
	for count := 1; count <= 30; count += 3 {
		for _, length := range []int{1, 2, 3, 5, 8, 20, universe} {
			var l []api.Span
			for range count {
				from := below(universe + 1)
				l = append(l, api.Span{From: from, To: min(from+below(length+1), universe)})
			}
			lists = append(lists, l)
		}
	}
	return lists
}

func TestNorm(t *testing.T) {
	for _, l := range slices.Concat(short(), long()) {
		for _, first := range firsts() {
			l := shifted(l, first)
			n, e := span.Norm(l)
			if w := normal(marks(l, first), first); !slices.Equal(n, w) || e != api.OK {
				t.Fatalf("Norm(%v) = %v, %d, not %v", l, n, e, w)
			}
		}
	}
}

// P4.3

func TestUnionCommonMinusExamples(t *testing.T) {
	for _, c := range []struct {
		name    string
		a, b    []api.Span
		u, x, m []api.Span
	}{
		{"nothing", nil, nil, nil, nil, nil}, {"no spans", []api.Span{}, nil, nil, nil, nil}, {"empty spans", spans(3, 3, 0, 0), spans(3, 3, end, end), nil, nil, nil},
		{"nil is the second list", spans(5, 7, 0, 2, 2, 3, 4, 4), nil, spans(0, 3, 5, 7), nil, spans(0, 3, 5, 7)}, {"nil is the first list", nil, spans(5, 7, 0, 2, 2, 3, 4, 4), spans(0, 3, 5, 7), nil, nil},
		{"the example", spans(0, 10), spans(2, 3, 5, 7), spans(0, 10), spans(2, 3, 5, 7), spans(0, 2, 3, 5, 7, 10)}, {"the example from the other side", spans(2, 3, 5, 7), spans(0, 10), spans(0, 10), spans(2, 3, 5, 7), nil},
		{"neighbours that touch", spans(0, 5), spans(5, 9), spans(0, 9), nil, spans(0, 5)}, {"neighbours with a gap", spans(0, 5), spans(6, 9), spans(0, 5, 6, 9), nil, spans(0, 5)}, {"neighbours that overlap", spans(0, 6), spans(5, 9), spans(0, 9), spans(5, 6), spans(0, 5)},
		{"equal lists", spans(1, 3, 8, 9), spans(1, 3, 8, 9), spans(1, 3, 8, 9), spans(1, 3, 8, 9), nil}, {"equal sets in other spans", spans(1, 3, 2, 6), spans(5, 6, 1, 5, 4, 4), spans(1, 6), spans(1, 6), nil},
		{"spans that overlap in their own list", spans(3, 8, 1, 4), spans(2, 6), spans(1, 8), spans(2, 6), spans(1, 2, 6, 8)}, {"spans that repeat in their own list", spans(2, 6, 2, 6), spans(4, 9, 4, 9, 4, 9), spans(2, 9), spans(4, 6), spans(2, 4)},
		{"empty spans within the other list", spans(0, 10), spans(4, 4, 0, 0, 10, 10), spans(0, 10), nil, spans(0, 10)}, {"empty spans of the first list", spans(4, 4), spans(0, 10), spans(0, 10), nil, nil},
		{"the ends without the middle", spans(2, 9), spans(4, 6), spans(2, 9), spans(4, 6), spans(2, 4, 6, 9)}, {"without the beginning", spans(2, 9), spans(0, 5), spans(0, 9), spans(2, 5), spans(5, 9)}, {"without the end", spans(2, 9), spans(5, 12), spans(2, 12), spans(5, 9), spans(2, 5)},
		{"common spans that touch", spans(0, 9), spans(2, 4, 4, 6), spans(0, 9), spans(2, 6), spans(0, 2, 6, 9)}, {"common spans on both sides of a gap", spans(0, 4, 5, 9), spans(3, 6), spans(0, 9), spans(3, 4, 5, 6), spans(0, 3, 6, 9)},
		{"everything without the ends", spans(0, end), spans(end-1, end, 0, 1), spans(0, end), spans(0, 1, end-1, end), spans(1, end-1)}, {"everything twice", spans(0, end), spans(0, end), spans(0, end), spans(0, end), nil}, {"everything in two parts", spans(0, 7), spans(7, end), spans(0, end), nil, spans(0, 7)}, {"all but one integer", spans(0, end), spans(5, 6), spans(0, end), spans(5, 6), spans(0, 5, 6, end)},
	} {
		l, e := span.Union(c.a, c.b)
		returned(t, c.name+", Union", l, e, c.u)
		l, e = span.Common(c.a, c.b)
		returned(t, c.name+", Common", l, e, c.x)
		l, e = span.Minus(c.a, c.b)
		returned(t, c.name+", Minus", l, e, c.m)
	}
}

// pairs calls see for all pairs of short lists and of long lists, at all places.
func pairs(see func(a []api.Span, b []api.Span, first int)) {
	for _, lists := range [][][]api.Span{short(), long()} {
		for _, a := range lists {
			for _, b := range lists {
				see(a, b, 0)
			}
		}
	}
	lists := long()
	for _, first := range firsts()[1:] {
		for i, a := range lists {
			see(shifted(a, first), shifted(lists[(7*i+3)%len(lists)], first), first)
		}
	}
}

func TestUnionCommonMinus(t *testing.T) {
	pairs(func(a []api.Span, b []api.Span, first int) {
		for _, c := range binaries() {
			l, e := c.f(a, b)
			if w := want(a, b, first, c.left); !slices.Equal(l, w) || e != api.OK {
				t.Fatalf("%s(%v, %v) = %v, %d, not %v", c.name, a, b, l, e, w)
			}
		}
	})
}

// call is a call of a function of two lists with its results.
type call struct {
	name string
	a, b []api.Span
	l    []api.Span
	e    api.Errno
}

// returns compares a function with the results of calls, of which only the numbers of spans are short enough to be told.
func returns(t *testing.T, f func(a []api.Span, b []api.Span) ([]api.Span, api.Errno), calls []call) {
	t.Helper()
	for _, c := range calls {
		if l, e := f(c.a, c.b); !slices.Equal(l, c.l) || e != c.e {
			t.Errorf("%s: %d spans, %d, not %d, %d", c.name, len(l), e, len(c.l), c.e)
		}
	}
}

func TestUnionWithManySpans(t *testing.T) {
	returns(t, span.Union, []call{
		{"128 and 128", comb(128, 0, 4, 1), comb(128, 2, 4, 1), comb(256, 0, 2, 1), api.OK},
		{"128 and 128, from the end on", reversed(comb(128, end-509, 4, 1)), reversed(comb(128, end-511, 4, 1)), comb(256, end-511, 2, 1), api.OK},
		{"129 and 128", comb(129, 0, 4, 1), comb(128, 2, 4, 1), nil, api.ErrFull}, {"128 and 129", comb(128, 0, 4, 1), comb(129, 2, 4, 1), nil, api.ErrFull},
		{"256 and one", comb(256, 0, 2, 1), spans(600, 601), nil, api.ErrFull}, {"one and 256", spans(600, 601), comb(256, 0, 2, 1), nil, api.ErrFull}, {"one before 256", spans(0, 1), comb(256, 2, 2, 1), nil, api.ErrFull},
		{"256 and 256", comb(256, 0, 4, 1), comb(256, 2, 4, 1), nil, api.ErrFull},
		{"256 and none", comb(256, 0, 2, 1), nil, comb(256, 0, 2, 1), api.OK}, {"none and 256", nil, comb(256, 0, 2, 1), comb(256, 0, 2, 1), api.OK}, {"256 and an empty span", comb(256, 0, 2, 1), spans(600, 600), comb(256, 0, 2, 1), api.OK},
		{"256 and the same", comb(256, 0, 2, 1), comb(256, 0, 2, 1), comb(256, 0, 2, 1), api.OK}, {"256 and their gaps", comb(256, 0, 2, 1), comb(256, 1, 2, 1), spans(0, 512), api.OK}, {"256 and one that touches the last", comb(256, 0, 2, 1), spans(511, 600), append(comb(255, 0, 2, 1), spans(510, 600)...), api.OK}, {"256 and one gap", comb(256, 0, 2, 1), spans(1, 2), append(spans(0, 3), comb(254, 4, 2, 1)...), api.OK},
	})
}

func TestCommonWithManySpans(t *testing.T) {
	returns(t, span.Common, []call{
		{"everything and 256", spans(0, end), comb(256, 0, 2, 1), comb(256, 0, 2, 1), api.OK}, {"256 and everything", comb(256, end-511, 2, 1), spans(0, end), comb(256, end-511, 2, 1), api.OK},
		{"256 and the same", comb(256, 0, 2, 1), comb(256, 0, 2, 1), comb(256, 0, 2, 1), api.OK}, {"256 and their gaps", comb(256, 0, 2, 1), comb(256, 1, 2, 1), nil, api.OK},
		{"129 and 128, one across each gap", comb(129, 0, 4, 3), comb(128, 2, 4, 3), comb(256, 2, 2, 1), api.OK}, {"128 and 129, the same", comb(128, 2, 4, 3), comb(129, 0, 4, 3), comb(256, 2, 2, 1), api.OK},
		{"129 and 129, one across each gap", comb(129, 0, 4, 3), comb(129, 2, 4, 3), nil, api.ErrFull}, {"256 and 256, one across each gap", comb(256, 0, 4, 3), comb(256, 2, 4, 3), nil, api.ErrFull},
		{"256, and one gap within one of them", comb(256, 0, 4, 3), spans(0, 1, 2, end), nil, api.ErrFull}, {"256, and one gap between two of them", comb(256, 0, 4, 3), spans(0, 3, 4, end), comb(256, 0, 4, 3), api.OK}, {"256 without the first one, with one gap", comb(256, 0, 4, 3), spans(4, 5, 6, end), append(spans(4, 5, 6, 7), comb(254, 8, 4, 3)...), api.OK},
	})
}

func TestMinusWithManySpans(t *testing.T) {
	returns(t, span.Minus, []call{
		{"everything without 255", spans(0, end), comb(255, 1, 2, 1), append(comb(255, 0, 2, 1), spans(510, end)...), api.OK}, {"everything without 256", spans(0, end), comb(256, 1, 2, 1), nil, api.ErrFull},
		{"everything without 256 from 0 on", spans(0, end), comb(256, 0, 2, 1), append(comb(255, 1, 2, 1), spans(511, end)...), api.OK}, {"everything without 256 up to the end", spans(0, end), comb(256, end-511, 2, 1), append(spans(0, end-511), comb(255, end-510, 2, 1)...), api.OK},
		{"everything without 256 that touch", spans(0, end), comb(256, 1, 3, 3), spans(0, 1, 769, end), api.OK},
		{"256 without nothing", comb(256, 0, 2, 1), nil, comb(256, 0, 2, 1), api.OK}, {"256 without their gaps", comb(256, 0, 2, 1), comb(256, 1, 2, 1), comb(256, 0, 2, 1), api.OK}, {"256 without themselves", comb(256, 0, 2, 1), comb(256, 0, 2, 1), nil, api.OK}, {"nothing without 256", nil, comb(256, 0, 2, 1), nil, api.OK},
		{"128 without their middles", comb(128, 0, 4, 3), comb(128, 1, 4, 1), comb(256, 0, 2, 1), api.OK}, {"129 without the middles of 128", comb(129, 0, 4, 3), comb(128, 1, 4, 1), nil, api.ErrFull}, {"256 without one middle", comb(256, 0, 4, 3), spans(5, 6), nil, api.ErrFull}, {"256 without their middles", comb(256, 0, 4, 3), comb(256, 1, 4, 1), nil, api.ErrFull}, {"256 without one middle and the last one", comb(256, 0, 4, 3), spans(1, 2, 1020, 1023), append(spans(0, 1, 2, 3), comb(254, 4, 4, 3)...), api.OK},
	})
}

// P4.4

func TestTotalExamples(t *testing.T) {
	for _, c := range []struct {
		name string
		l    []api.Span
		n    int
	}{
		{"nil", nil, 0}, {"no spans", []api.Span{}, 0}, {"empty spans", spans(0, 0, 7, 7, end, end), 0}, {"the example", spans(0, 4, 2, 6), 6}, {"one integer", spans(7, 8), 1}, {"the last integer", spans(end-1, end), 1},
		{"spans that touch", spans(4, 6, 0, 4), 6}, {"spans that repeat", spans(3, 7, 3, 7), 4}, {"a span in another", spans(5, 6, 3, 9), 6}, {"spans with gaps", spans(9, 12, 0, 2, 5, 6), 6}, {"an empty span in another", spans(3, 9, 5, 5), 6},
		{"everything", spans(0, end), end}, {"everything but one", spans(0, 5, 6, end), end - 1}, {"everything in two parts", spans(5, end, 0, 6), end}, {"everything many times", repeated(most, 0, end), end},
		{"many spans", comb(most, 0, 9, 5), most * 5}, {"many spans that overlap", comb(most, 2, 1, 300), most + 299}, {"many great spans", comb(most, 0, end/most, end/most-1), end - most},
	} {
		if n, e := span.Total(c.l); n != c.n || e != api.OK {
			t.Errorf("%s: Total = %d, %d, not %d", c.name, n, e, c.n)
		}
	}
}

func TestTotal(t *testing.T) {
	for _, l := range slices.Concat(short(), long()) {
		for _, first := range firsts() {
			l := shifted(l, first)
			w := 0
			for _, is := range marks(l, first) {
				if is {
					w++
				}
			}
			if n, e := span.Total(l); n != w || e != api.OK {
				t.Fatalf("Total(%v) = %d, %d, not %d", l, n, e, w)
			}
		}
	}
}

func TestHasExamples(t *testing.T) {
	great := append(comb(1000, 0, 2, 1), spans(4000, 4001)...)
	for _, c := range []struct {
		name    string
		l       []api.Span
		in, out []int
	}{
		{"nil", nil, nil, []int{0, 1, -1, math.MinInt, math.MaxInt}}, {"no spans", []api.Span{}, nil, []int{0, end}},
		{"two spans", spans(3, 5, 0, 1), []int{0, 3, 4}, []int{-1, 1, 2, 5, 6, end, math.MinInt, math.MaxInt}}, {"spans that overlap", spans(0, 4, 2, 6), []int{0, 2, 3, 4, 5}, []int{-1, 6}},
		{"an empty span", spans(4, 4), nil, []int{3, 4, 5}}, {"empty spans at the ends", spans(0, 0, end, end), nil, []int{-1, 0, 1, end - 1, end, end + 1}}, {"everything", spans(0, end), []int{0, 1, end - 1}, []int{-1, end}},
		{"a reversed span", spans(5, 3), nil, []int{2, 3, 4, 5, 6}}, {"a reversed span before another", spans(5, 3, 4, 6), []int{4, 5}, []int{3, 6}},
		{"negative integers", spans(-9, 0), []int{-9, -1}, []int{-10, 0}}, {"integers beyond the end", spans(end, end+5), []int{end, end + 4}, []int{end - 1, end + 5}},
		{"all but the greatest int", spans(math.MinInt, math.MaxInt), []int{math.MinInt, -1, 0, math.MaxInt - 1}, []int{math.MaxInt}}, {"reversed greatest and smallest int", spans(math.MaxInt, math.MinInt), nil, []int{math.MinInt, 0, math.MaxInt}},
		{"the smallest int", minInt(0, 1), []int{math.MinInt}, []int{math.MinInt + 1, math.MaxInt}}, {"just below the greatest int", maxInt(1, 0), []int{math.MaxInt - 1}, []int{math.MaxInt, math.MaxInt - 2, math.MinInt}}, {"empty at the smallest int", minInt(0, 0), nil, []int{math.MinInt, math.MaxInt}}, {"empty at the greatest int", maxInt(0, 0), nil, []int{math.MaxInt, math.MinInt}}, {"from below 0 to the smallest int", spans(-1, math.MinInt), nil, []int{-1, -2, math.MinInt}},
		{"too many spans", great, []int{0, 2, 510, 512, 1998, 4000}, []int{1, 511, 513, 3999, 4001}}, {"too many empty spans", repeated(1000, 2, 2), nil, []int{1, 2, 3}},
	} {
		for _, x := range c.in {
			if !span.Has(c.l, x) {
				t.Errorf("%s: %d is not there", c.name, x)
			}
		}
		for _, x := range c.out {
			if span.Has(c.l, x) {
				t.Errorf("%s: %d is there", c.name, x)
			}
		}
	}
}

func TestHas(t *testing.T) {
	for _, l := range slices.Concat(short(), long()) {
		for i, is := range marks(l, 0) {
			if span.Has(l, i) != is {
				t.Fatalf("Has(%v, %d) = %v", l, i, !is)
			}
		}
	}
}

// P4.5

func TestMoveExamples(t *testing.T) {
	for _, c := range []struct {
		name string
		l    []api.Span
		by   int
		want []api.Span
		e    api.Errno
	}{
		{"the example", spans(0, 2, 1, 1), 3, spans(3, 5, 4, 4), api.OK}, {"back", spans(3, 5, 4, 4), -3, spans(0, 2, 1, 1), api.OK}, {"by 0", spans(5, 7, 0, 2, 2, 3, 4, 4, 5, 7), 0, spans(5, 7, 0, 2, 2, 3, 4, 4, 5, 7), api.OK}, {"descending, overlapping, touching and repeated", spans(9, 12, 4, 10, 2, 4, 2, 4), 1, spans(10, 13, 5, 11, 3, 5, 3, 5), api.OK},
		{"nil", nil, 5, nil, api.OK}, {"no spans", []api.Span{}, end + 1, nil, api.OK}, {"no spans by the smallest int", nil, math.MinInt, nil, api.OK}, {"no spans by the greatest int", []api.Span{}, math.MaxInt, nil, api.OK},
		{"to 0", spans(3, 9, 4, 4), -3, spans(0, 6, 1, 1), api.OK}, {"below 0", spans(3, 9, 4, 4), -4, nil, api.ErrRange}, {"below 0 with the last span", spans(4, 9, 3, 4), -4, nil, api.ErrRange}, {"below 0 from 0", spans(0, 1), -1, nil, api.ErrRange},
		{"to the end", spans(0, 3, 1, 9), end - 9, spans(end-9, end-6, end-8, end), api.OK}, {"beyond the end", spans(0, 3, 1, 9), end - 8, nil, api.ErrRange}, {"beyond the end with the first span", spans(1, 9, 0, 3), end - 8, nil, api.ErrRange}, {"beyond the end from there", spans(end-1, end), 1, nil, api.ErrRange},
		{"an empty span to 0", spans(7, 7), -7, spans(0, 0), api.OK}, {"an empty span below 0", spans(7, 7), -8, nil, api.ErrRange}, {"an empty span to the end", spans(7, 7), end - 7, spans(end, end), api.OK}, {"an empty span beyond the end", spans(7, 7), end - 6, nil, api.ErrRange}, {"an empty span from 0 to the end", spans(0, 0), end, spans(end, end), api.OK}, {"an empty span from the end to 0", spans(end, end), -end, spans(0, 0), api.OK}, {"an empty span from 0 beyond the end", spans(0, 0), end + 1, nil, api.ErrRange}, {"an empty span from the end below 0", spans(end, end), -end - 1, nil, api.ErrRange},
		{"everything by 0", spans(0, end), 0, spans(0, end), api.OK}, {"everything by 1", spans(0, end), 1, nil, api.ErrRange}, {"everything by -1", spans(0, end), -1, nil, api.ErrRange}, {"the last integer to 0", spans(end-1, end), 1 - end, spans(0, 1), api.OK}, {"the last integer below 0", spans(end-1, end), -end, nil, api.ErrRange},
		{"many spans", comb(most, 0, 2, 1), end - 2*most + 1, comb(most, end-2*most+1, 2, 1), api.OK}, {"many spans beyond the end", comb(most, 0, 2, 1), end - 2*most + 2, nil, api.ErrRange}, {"many empty spans", repeated(most, 9, 9), -9, repeated(most, 0, 0), api.OK},
	} {
		l, e := span.Move(c.l, c.by)
		if !slices.Equal(l, c.want) || e != c.e {
			t.Errorf("%s: Move = %v, %d, not %v, %d", c.name, l, e, c.want, c.e)
		}
	}
}

func TestMoveByGreatIntegers(t *testing.T) {
	for _, by := range []int{math.MinInt, math.MinInt + 1, math.MinInt + end, math.MaxInt, math.MaxInt - 1, math.MaxInt - end, math.MaxInt - end + 1, -1 << 62, 1 << 62, -1 << 35, 1 << 35, -end - 1, end + 1} {
		for _, l := range [][]api.Span{spans(0, 0), spans(0, 2), spans(0, end), spans(end, end), spans(1, 1), spans(end-1, end), spans(5, 9, 0, end)} {
			r, e := span.Move(l, by)
			refused(t, "Move", r, e, api.ErrRange)
		}
	}
}

func TestMove(t *testing.T) {
	for _, l := range slices.Concat(short(), long()) {
		low, high := universe, 0
		for _, s := range l {
			low, high = min(low, s.From), max(high, s.To)
		}
		if len(l) == 0 {
			continue
		}
		for _, by := range []int{-low, 1 - low, 0, 1, 1 << 30, end - high - 1, end - high} {
			r, e := span.Move(l, by)
			returned(t, "Move", r, e, shifted(l, by))
		}
		for _, by := range []int{-low - 1, end - high + 1} {
			r, e := span.Move(l, by)
			refused(t, "Move", r, e, api.ErrRange)
		}
	}
}

// P4.6

func TestNormOfNormalForms(t *testing.T) {
	for _, l := range slices.Concat(short(), long(), [][]api.Span{spans(0, end), comb(most, 0, 2, 1), reversed(comb(most, end-2*most, 2, 1)), repeated(most, 3, 7)}) {
		n, _ := span.Norm(l)
		r, e := span.Norm(n)
		returned(t, "Norm of a normal form", r, e, n)
	}
	pairs(func(a []api.Span, b []api.Span, first int) {
		for _, c := range binaries() {
			l, _ := c.f(a, b)
			if n, e := span.Norm(l); !slices.Equal(n, l) || e != api.OK {
				t.Fatalf("%s(%v, %v) = %v, with the normal form %v, %d", c.name, a, b, l, n, e)
			}
		}
	})
}

func TestResultsHaveWhatTheirDefinitionsSayOfHas(t *testing.T) {
	agrees := func(a []api.Span, b []api.Span, c binary, xs []int) {
		l, e := c.f(a, b)
		if e != api.OK {
			t.Fatalf("%s(%v, %v): %d", c.name, a, b, e)
		}
		for _, x := range xs {
			if span.Has(l, x) != c.left(span.Has(a, x), span.Has(b, x)) {
				t.Fatalf("%s(%v, %v) = %v, which is wrong at %d", c.name, a, b, l, x)
			}
		}
	}
	pairs(func(a []api.Span, b []api.Span, first int) {
		var xs []int
		for x := first - 1; x <= first+universe; x++ {
			xs = append(xs, x)
		}
		for _, c := range binaries() {
			agrees(a, b, c, xs)
		}
	})
	for _, c := range binaries() {
		agrees(comb(120, 5, end/128, end/200), reversed(comb(120, 9, end/130, end/300)), c, probes(comb(120, 5, end/128, end/200), comb(120, 9, end/130, end/300)))
	}
}

// probes are the ends of spans and their neighbours, the ends of the range, and the smallest and the greatest int.
func probes(lists ...[]api.Span) []int {
	xs := []int{math.MinInt, -1, 0, end - 1, end, math.MaxInt}
	for _, s := range slices.Concat(lists...) {
		xs = append(xs, s.From-1, s.From, s.To-1, s.To)
	}
	return xs
}

// P4.7

func TestTotalsTogether(t *testing.T) {
	total := func(l []api.Span, e api.Errno) int {
		n, f := span.Total(l)
		if e != api.OK || f != api.OK {
			t.Fatalf("errors %d, %d", e, f)
		}
		return n
	}
	together := func(a []api.Span, b []api.Span, first int) {
		union, common, minus := total(span.Union(a, b)), total(span.Common(a, b)), total(span.Minus(a, b))
		if n, m := total(a, api.OK), total(b, api.OK); n+m != union+common || n != common+minus {
			t.Fatalf("%v and %v have %d and %d integers, but the results %d, %d and %d", a, b, n, m, union, common, minus)
		}
	}
	pairs(together)
	great := [][]api.Span{nil, spans(0, end), spans(end, end), spans(0, end/2, 5, 9), spans(end/3, end, 7, end/2), comb(100, 0, end/100, end/101), reversed(comb(100, 1, end/101, end/110)), repeated(most, 1, end-1)}
	for _, a := range great {
		for _, b := range great {
			together(a, b, 0)
		}
	}
}

// Rule 6 of the document: results are new memory, and arguments are not changed.

// roomy is a copy of l with room behind it, which a function might write to.
func roomy(l []api.Span) []api.Span { return slices.Concat(l, room())[:len(l)] }

func room() []api.Span { return repeated(2*most, -5, -6) }

// isKept reports whether l is still what roomy returned for kept.
func isKept(l []api.Span, kept []api.Span) bool {
	return slices.Equal(l[:len(kept)+2*most], slices.Concat(kept, room()))
}

// spoil also writes to the room behind l, which belongs to a result as well.
func spoil(l []api.Span) {
	l = l[:cap(l)]
	for i := range l {
		l[i] = api.Span{From: -7, To: -8}
	}
}

// shapes are valid lists: those in normal form, which a function might return as they are, and others, and a list that is refused.
func shapes() [][]api.Span {
	return [][]api.Span{nil, spans(3, 8), spans(0, 2, 5, 7), spans(5, 7, 0, 2, 2, 3, 4, 4), spans(4, 4), spans(0, end), comb(most, 2, 2, 1), reversed(comb(most, 2, 4, 3)), spans(9, 9, 8, 2)}
}

func TestArgumentsAreNotChanged(t *testing.T) {
	for _, l := range shapes() {
		x := roomy(l)
		span.Check(x)
		span.Has(x, 5)
		for _, c := range unaries() {
			r, _ := c.f(x)
			spoil(r)
			if !isKept(x, l) {
				t.Fatalf("%s changes %v, or its result shares its memory", c.name, l)
			}
		}
		for _, m := range shapes() {
			for _, c := range binaries() {
				x, y := roomy(l), roomy(m)
				r, _ := c.f(x, y)
				spoil(r)
				if !isKept(x, l) || !isKept(y, m) {
					t.Fatalf("%s changes %v or %v, or its result shares their memory", c.name, l, m)
				}
			}
		}
	}
}

func TestOneListAsBothArguments(t *testing.T) {
	for _, l := range shapes()[:8] {
		x := roomy(l)
		n, _ := span.Norm(l)
		r, e := span.Union(x, x)
		returned(t, "Union", r, e, n)
		r, e = span.Common(x, x)
		returned(t, "Common", r, e, n)
		r, e = span.Minus(x, x)
		returned(t, "Minus", r, e, nil)
		if !isKept(x, l) {
			t.Errorf("%v is changed", l)
		}
	}
}

func TestResultsShareNoMemory(t *testing.T) {
	a, b := spans(5, 9, 0, 3), spans(2, 6, 7, 7)
	for _, c := range binaries() {
		l, _ := c.f(a, b)
		kept := slices.Clone(l)
		r, _ := c.f(a, b)
		spoil(r)
		if !slices.Equal(l, kept) {
			t.Errorf("two results of %s share memory", c.name)
		}
	}
	for _, c := range unaries() {
		l, _ := c.f(a)
		kept := slices.Clone(l)
		r, _ := c.f(a)
		spoil(r)
		if !slices.Equal(l, kept) {
			t.Errorf("two results of %s share memory", c.name)
		}
	}
}
