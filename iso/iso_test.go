package iso_test

import (
	"math"
	"slices"
	"testing"

	"papermill/api"
	"papermill/iso"
)

// P13.1

// accepted are maps at the limits.
func accepted() [][]api.Run {
	return slices.Concat(long(), [][]api.Run{
		nil, {}, maps(up(0, 1)), maps(down(0, 1)), maps(up(end-1, 1)), maps(down(end-1, 1)), maps(up(end-2, 2)), maps(down(1, 2)), maps(down(2, 3)), maps(up(end-3, 3)),
		maps(up(0, 3), up(0, 3), down(2, 3)), maps(up(0, end-1), down(0, 1)), maps(down(end-1, 1), up(0, end-1)), maps(up(0, end-2), up(0, 1), up(0, 1)),
		repeated(most, up(0, 1)), repeated(most, down(end-1, 1)), repeated(most, up(end-1, 1)), changed(repeated(most, up(5, 1)), 100, up(0, end-most+1)),
	})
}

// badRuns are out of range, each for another reason; of some, sums and differences wrap around.
func badRuns() []api.Run {
	var l []api.Run
	for _, n := range []int{0, -1, -2, -end, -end - 1, math.MinInt, math.MinInt + 1, end + 1, end + 2, 2 * end, 1 << 62, math.MaxInt - 1, math.MaxInt} {
		for _, at := range []int{0, 1, 5, end - 1} {
			l = append(l, up(at, n), down(at, n))
		}
	}
	for _, at := range []int{-1, -2, -end, -end - 1, math.MinInt, math.MinInt + 1, end, end + 1, 2 * end, 1 << 62, math.MaxInt - 1, math.MaxInt} {
		for _, n := range []int{1, 2, 3, end - 1, end, 0, -1, at, at + 1, at + 2, -at, 1 - at, math.MinInt, math.MaxInt} {
			l = append(l, up(at, n), down(at, n))
		}
	}
	return append(l,
		down(0, 2), down(0, 3), down(1, 3), down(2, 4), down(0, end), down(end-2, end), down(half, half+2),
		up(end-1, 2), up(end-1, 3), up(end-2, 3), up(1, end), up(2, end-1), up(end-1, end), up(half, half+1),
	)
}

// refusal is a map with the error of Check.
type refusal struct {
	m []api.Run
	e api.Errno
}

func tooMany() []refusal {
	var l []refusal
	for _, m := range [][]api.Run{
		repeated(most+1, up(0, 1)), stairs(most+1, 0, 1, 1, false), stairs(most+1, 0, 2, 2, false), stairs(most+1, 0, each, each, false), repeated(1000, down(0, 1)), stairs(65536, 0, 1, 1, false), repeated(65537, up(3, 2)),
		repeated(most+1, up(0, 0)), repeated(most+1, up(0, end)), repeated(most+1, up(-1, 1)), repeated(most+1, up(math.MaxInt, math.MaxInt)), repeated(most+1, down(math.MinInt, math.MaxInt)),
		changed(repeated(most+1, up(0, 1)), 0, up(0, 0)), changed(repeated(most+1, up(0, 1)), most, down(0, 2)), changed(repeated(most+1, up(0, 1)), 9, up(0, end)),
	} {
		l = append(l, refusal{m, api.ErrFull})
	}
	return l
}

// outOfRange has a bad run at the beginning, in the middle or at the end of maps, some of which are too long besides.
func outOfRange() []refusal {
	var l []refusal
	for _, r := range badRuns() {
		l = append(l, refusal{maps(r), api.ErrRange}, refusal{maps(r, r), api.ErrRange})
		for _, others := range [][]api.Run{maps(up(0, 3), down(5, 2), up(7, 1)), maps(up(0, end), up(0, end), up(0, end)), repeated(most, down(9, 1))} {
			for _, i := range []int{0, 1, len(others) - 1} {
				l = append(l, refusal{changed(others, i, r), api.ErrRange})
			}
		}
	}
	// Lengths that seem to fit only together.
	for _, m := range [][]api.Run{maps(up(0, end), up(0, end), up(0, -end)), maps(up(0, -1), up(0, 2)), maps(up(0, math.MaxInt), up(0, math.MaxInt), up(0, 3)), repeated(4, up(0, 1<<62)), maps(up(0, math.MinInt), up(0, math.MinInt)), maps(up(0, 2), up(2, 0), up(2, 1))} {
		l = append(l, refusal{m, api.ErrRange})
	}
	return l
}

func tooLong() []refusal {
	var l []refusal
	for _, m := range [][]api.Run{
		maps(up(0, end), up(0, 1)), maps(up(0, 1), up(0, end)), maps(down(end-1, end), down(0, 1)), maps(down(0, 1), down(end-1, end)), maps(up(0, end-1), up(5, 2)), maps(up(0, half), up(half, half), up(3, 1)), maps(up(0, half), up(0, half+1)), maps(up(0, end), up(0, end)), maps(up(0, end), down(end-1, end), up(0, end)),
		repeated(most, up(0, end)), repeated(most, down(end-1, end)), changed(stairs(most, 0, each, each, false), most-1, up(0, each+1)), changed(stairs(most, 0, each, each, false), 0, up(0, each+1)), changed(repeated(most, up(5, 1)), 100, up(0, end-most+2)),
	} {
		l = append(l, refusal{m, api.ErrLength})
	}
	return l
}

func refusals() []refusal { return slices.Concat(tooMany(), outOfRange(), tooLong()) }

func TestCheckAccepts(t *testing.T) {
	for _, m := range slices.Concat(accepted(), short()) {
		if e := iso.Check(m); e != api.OK {
			t.Fatalf("Check(%v of %d) = %d", brief(m), len(m), e)
		}
	}
}

func TestCheckRefuses(t *testing.T) {
	for _, r := range refusals() {
		if e := iso.Check(r.m); e != r.e {
			t.Fatalf("Check(%v of %d) = %d, not %d", brief(r.m), len(r.m), e, r.e)
		}
	}
}

// unary is a function of one map, which returns a number or how many runs or spans it has.
type unary struct {
	name string
	f    func(m []api.Run) (int, api.Errno)
}

func number[T any](l []T, e api.Errno) (int, api.Errno) { return len(l), e }

// unaries are called with all kinds of other arguments, also with those that have errors of their own.
func unaries() []unary {
	l := []unary{
		{"Length", iso.Length},
		{"Norm", func(m []api.Run) (int, api.Errno) { return number(iso.Norm(m)) }},
		{"Reverse", func(m []api.Run) (int, api.Errno) { return number(iso.Reverse(m)) }},
		{"Image", func(m []api.Run) (int, api.Errno) { return number(iso.Image(m)) }},
	}
	for _, x := range []int{0, 1, -1, end, math.MinInt, math.MaxInt} {
		l = append(l, unary{"At", func(m []api.Run) (int, api.Errno) { return iso.At(m, x) }})
	}
	for _, s := range spans(0, 0, 0, 1, 1, 2, 0, end, 2, 1, -1, 1, 0, end+1, math.MinInt, math.MaxInt, math.MaxInt, math.MinInt) {
		l = append(l,
			unary{"Part", func(m []api.Run) (int, api.Errno) { return number(iso.Part(m, s)) }},
			unary{"Find", func(m []api.Run) (int, api.Errno) { return number(iso.Find(m, s)) }},
		)
	}
	return l
}

type binary struct {
	name string
	f    func(a []api.Run, b []api.Run) ([]api.Run, api.Errno)
}

func binaries() []binary { return []binary{{"Compose", iso.Compose}, {"Join", iso.Join}} }

func TestFunctionsOfOneMapReturnTheErrorOfCheck(t *testing.T) {
	for _, c := range unaries() {
		for _, r := range refusals() {
			n, e := c.f(r.m)
			expectRefused(t, c.name, n, e, r.e)
		}
	}
}

// The maps that are fine have other errors with some of the ones that are refused, or would have them.
func TestFunctionsOfTwoMapsReturnTheErrorOfCheck(t *testing.T) {
	fine := [][]api.Run{nil, maps(up(0, 1)), maps(up(end-1, 1)), maps(up(0, end)), repeated(most, up(0, 1)), repeated(most, up(0, 2))}
	for _, c := range binaries() {
		for _, r := range refusals() {
			for _, m := range fine {
				l, e := c.f(r.m, m)
				expectRefused(t, c.name+" with a bad first map", len(l), e, r.e)
				l, e = c.f(m, r.m)
				expectRefused(t, c.name+" with a bad second map", len(l), e, r.e)
			}
		}
	}
}

func TestTheFirstMapIsCheckedBeforeTheSecond(t *testing.T) {
	bad := slices.Concat(tooMany(), tooLong())
	for i, r := range outOfRange() {
		if i%9 == 0 {
			bad = append(bad, r)
		}
	}
	for _, c := range binaries() {
		for _, a := range bad {
			for _, b := range bad {
				l, e := c.f(a.m, b.m)
				expectRefused(t, c.name+" of two bad maps", len(l), e, a.e)
			}
		}
	}
}

// P13.2

func TestLength(t *testing.T) {
	for _, m := range slices.Concat(accepted(), short()) {
		if n, e := iso.Length(m); n != lengthOf(m) || e != api.OK {
			t.Fatalf("Length(%v of %d) = %d, %d, not %d", brief(m), len(m), n, e, lengthOf(m))
		}
	}
	for _, c := range []struct {
		m []api.Run
		n int
	}{{nil, 0}, {maps(), 0}, {maps(up(10, 3), down(7, 2)), 5}, {maps(down(9, 1)), 1}, {maps(up(0, end)), end}, {repeated(most, down(9, 1)), most}, {repeated(most, up(0, each)), end}, {repeated(most, down(9, 10)), 2560}} {
		if n, e := iso.Length(c.m); n != c.n || e != api.OK {
			t.Errorf("Length(%v of %d) = %d, %d, not %d", brief(c.m), len(c.m), n, e, c.n)
		}
	}
}

func expectAt(t *testing.T, m []api.Run, x int, want int) {
	t.Helper()
	if y, e := iso.At(m, x); y != want || e != api.OK {
		t.Fatalf("At(%v of %d, %d) = %d, %d, not %d", brief(m), len(m), x, y, e, want)
	}
}

func TestAtExamples(t *testing.T) {
	for x, y := range []int{10, 11, 12, 7, 6} {
		expectAt(t, maps(up(10, 3), down(7, 2)), x, y)
	}
	for _, c := range []struct {
		m    []api.Run
		x, y int
	}{
		{maps(up(0, end)), 0, 0}, {maps(up(0, end)), 1, 1}, {maps(up(0, end)), end - 1, end - 1}, {maps(down(end-1, end)), 0, end - 1}, {maps(down(end-1, end)), 1, end - 2}, {maps(down(end-1, end)), end - 1, 0},
		{maps(up(0, half), down(end-1, half)), half - 1, half - 1}, {maps(up(0, half), down(end-1, half)), half, end - 1}, {maps(up(0, half), down(end-1, half)), end - 1, half},
		{maps(down(5, 1)), 0, 5}, {maps(up(5, 1)), 0, 5}, {maps(down(5, 1), down(5, 1), up(8, 1)), 1, 5}, {maps(down(5, 1), down(5, 1), up(8, 1)), 2, 8},
		{repeated(most, up(0, each)), end - 1, each - 1}, {repeated(most, down(end-1, each)), end - 1, end - each}, {repeated(most, up(0, each)), end - each, 0}, {repeated(most, up(0, each)), end - each - 1, each - 1}, {stairs(most, 9, 2, 1, false), most - 1, 519},
	} {
		expectAt(t, c.m, c.x, c.y)
	}
}

func TestAt(t *testing.T) {
	for _, m := range short() {
		for x, y := range imagesOf(m) {
			expectAt(t, m, x, y)
		}
	}
	for _, m := range accepted() {
		for _, place := range borders(m) {
			for x := max(place-2, 0); x < min(place+2, lengthOf(m)); x++ {
				expectAt(t, m, x, imageOf(m, x))
			}
		}
	}
}

func TestAtOutsideTheDomain(t *testing.T) {
	for _, m := range slices.Concat(accepted(), short()) {
		n := lengthOf(m)
		for _, x := range []int{n, n + 1, n + 2, 2*n + 1, n + 1<<32, n + 1<<34, end, end + 1, 1 << 62, math.MaxInt - 1, math.MaxInt, -1, -2, -n - 1, -end, -end - 1, -1 << 32, -1 << 62, math.MinInt, math.MinInt + 1, math.MinInt + n} {
			y, e := iso.At(m, x)
			expectRefused(t, "At outside of the domain", y, e, api.ErrRange)
		}
	}
}

// P13.3

func TestNormExamples(t *testing.T) {
	for _, c := range []struct {
		name string
		m, n []api.Run
	}{
		{"nil", nil, nil}, {"no runs", maps(), nil}, {"the example", maps(up(5, 1), up(6, 2), up(6, 1)), maps(up(5, 3), up(6, 1))},
		{"one integer", maps(up(3, 1)), maps(up(3, 1))}, {"one integer, back", maps(down(3, 1)), maps(up(3, 1))}, {"0, back", maps(down(0, 1)), maps(up(0, 1))}, {"the last image, back", maps(down(end-1, 1)), maps(up(end-1, 1))}, {"a run", maps(up(3, 4)), maps(up(3, 4))}, {"a run, back", maps(down(8, 4)), maps(down(8, 4))}, {"two integers, back", maps(down(1, 2)), maps(down(1, 2))},
		{"the longest map", maps(up(0, end)), maps(up(0, end))}, {"the longest map, back", maps(down(end-1, end)), maps(down(end-1, end))}, {"the longest map of two runs", maps(up(0, half), up(half, half)), maps(up(0, end))}, {"the same, back", maps(down(end-1, half), down(half-1, half)), maps(down(end-1, end))}, {"the same with one integer first", maps(down(0, 1), up(1, end-1)), maps(up(0, end))}, {"the same with one integer last", maps(down(end-1, end-1), up(0, 1)), maps(down(end-1, end))},
		{"4, 5, 4 of three runs", maps(up(4, 1), down(5, 1), up(4, 1)), maps(up(4, 2), up(4, 1))}, {"4, 5, 4 in normal form", maps(up(4, 2), up(4, 1)), maps(up(4, 2), up(4, 1))}, {"4, 5, 4 with the last two back", maps(up(4, 1), down(5, 2)), maps(up(4, 2), up(4, 1))}, {"4, 3, 4", maps(up(4, 1), up(3, 2)), maps(down(4, 2), up(4, 1))}, {"5, 6, 7, 6", maps(up(5, 2), down(7, 2)), maps(up(5, 3), up(6, 1))}, {"7, 6, 5, 6", maps(down(7, 2), up(5, 2)), maps(down(7, 3), up(6, 1))}, {"4, 5, 4, 5", maps(up(4, 2), up(4, 2)), maps(up(4, 2), up(4, 2))}, {"4, 5, 4, 5 of single ones", maps(up(4, 1), up(5, 1), up(4, 1), up(5, 1)), maps(up(4, 2), up(4, 2))},
		{"up and up", maps(up(3, 2), up(5, 3)), maps(up(3, 5))}, {"down and down", maps(down(9, 2), down(7, 3)), maps(down(9, 5))}, {"up and up with a gap", maps(up(3, 2), up(6, 3)), maps(up(3, 2), up(6, 3))}, {"up and up that overlap", maps(up(3, 2), up(4, 3)), maps(up(3, 2), up(4, 3))}, {"down and down with a gap", maps(down(9, 2), down(6, 3)), maps(down(9, 2), down(6, 3))}, {"down and down that overlap", maps(down(9, 2), down(8, 3)), maps(down(9, 2), down(8, 3))}, {"up and down from where it would go on backwards", maps(up(3, 2), down(2, 2)), maps(up(3, 2), down(2, 2))}, {"down and up from where it would go on forwards", maps(down(3, 2), up(4, 2)), maps(down(3, 2), up(4, 2))},
		{"first alone goes on upwards", maps(up(5, 2), down(7, 3)), maps(up(5, 3), down(6, 2))}, {"first alone goes on downwards", maps(down(5, 2), up(3, 3)), maps(down(5, 3), up(4, 2))}, {"the rest goes on downwards", maps(up(5, 2), down(7, 2), up(5, 1)), maps(up(5, 3), down(6, 2))}, {"the rest turns upwards", maps(up(5, 2), down(7, 2), up(7, 2)), maps(up(5, 3), up(6, 3))}, {"the rest takes the first of a run back", maps(up(5, 2), down(7, 2), down(7, 2)), maps(up(5, 3), up(6, 2), up(6, 1))}, {"all rests are single ones", maps(up(4, 1), down(5, 2), down(5, 2), down(5, 2)), maps(up(4, 2), up(4, 2), up(4, 2), up(4, 1))},
		{"a single one between, taken upwards", maps(up(3, 2), up(5, 1), up(6, 2)), maps(up(3, 5))}, {"a single one between, back, taken upwards", maps(up(3, 2), down(5, 1), up(6, 2)), maps(up(3, 5))}, {"a single one between, taken downwards", maps(down(9, 2), up(7, 1), down(6, 2)), maps(down(9, 5))}, {"a single one between, taken by the one before it", maps(up(3, 2), up(5, 1), down(4, 2)), maps(up(3, 3), down(4, 2))}, {"the same, downwards", maps(down(5, 2), down(3, 1), up(4, 2)), maps(down(5, 3), up(4, 2))}, {"a single one between, left to the next one", maps(up(3, 2), up(7, 1), up(8, 2)), maps(up(3, 2), up(7, 3))}, {"a single one between, left to the next one, downwards", maps(up(3, 2), up(7, 1), down(6, 2)), maps(up(3, 2), down(7, 3))}, {"a single one alone", maps(up(3, 2), down(7, 1), up(3, 2)), maps(up(3, 2), up(7, 1), up(3, 2))},
		{"two single ones upwards", maps(up(3, 1), up(4, 1)), maps(up(3, 2))}, {"two single ones downwards", maps(up(4, 1), up(3, 1)), maps(down(4, 2))}, {"two single ones back, upwards", maps(down(3, 1), down(4, 1)), maps(up(3, 2))}, {"two single ones back, downwards", maps(down(4, 1), down(3, 1)), maps(down(4, 2))}, {"two equal ones", maps(up(4, 1), up(4, 1)), maps(up(4, 1), up(4, 1))}, {"two single ones too far upwards", maps(up(4, 1), up(6, 1)), maps(up(4, 1), up(6, 1))}, {"two single ones too far downwards", maps(up(4, 1), down(2, 1)), maps(up(4, 1), up(2, 1))}, {"a single one and a run up", maps(up(4, 1), up(5, 2)), maps(up(4, 3))}, {"a single one and a run down", maps(up(4, 1), down(3, 2)), maps(down(4, 3))}, {"a single one and a run down too far", maps(up(4, 1), down(2, 2)), maps(up(4, 1), down(2, 2))},
		{"0 and the last image", maps(up(0, 1), up(end-1, 1)), maps(up(0, 1), up(end-1, 1))}, {"the last image and 0", maps(up(end-2, 2), up(0, 2)), maps(up(end-2, 2), up(0, 2))}, {"0 and the last image, back", maps(down(1, 2), down(end-1, 2)), maps(down(1, 2), down(end-1, 2))}, {"1, 0, 1", maps(down(1, 2), up(1, 1)), maps(down(1, 2), up(1, 1))}, {"0, 1, 0", maps(down(0, 1), down(1, 2)), maps(up(0, 2), up(0, 1))},
		{"256 single ones", repeated(most, down(7, 1)), repeated(most, up(7, 1))}, {"256 single ones upwards", stairs(most, 0, 1, 1, true), maps(up(0, most))}, {"256 single ones downwards", stairs(most, end-1, -1, 1, false), maps(down(end-1, most))}, {"256 runs, the longest map", stairs(most, 0, each, each, false), maps(up(0, end))}, {"256 runs, the longest map, back", stairs(most, end-1, -each, each, true), maps(down(end-1, end))}, {"256 runs that do not meet", stairs(most, each-1, each, each, true), stairs(most, each-1, each, each, true)},
	} {
		m, e := iso.Norm(c.m)
		expect(t, c.name, m, e, c.n)
	}
}

func TestNorm(t *testing.T) {
	for _, m := range short() {
		n, e := iso.Norm(m)
		expect(t, "Norm", n, e, normalOf(imagesOf(m)))
		if len(n) > len(m) {
			t.Fatalf("the normal form of %v has more runs", m)
		}
	}
	for _, m := range accepted() {
		n, e := iso.Norm(m)
		expectLong(t, "Norm", n, e, lengthOf(m), borders(m), func(x int) int { return imageOf(m, x) })
	}
}

// P13.4

func TestComposeExamples(t *testing.T) {
	outer := maps(up(10, 5), down(30, 5), up(50, 5), up(55, 5))
	for _, c := range []struct {
		name               string
		inner, outer, want []api.Run
	}{
		{"the example", maps(down(2, 2)), maps(up(10, 5)), maps(down(12, 2))}, {"up and back", maps(up(1, 2)), maps(down(10, 5)), maps(down(9, 2))}, {"back and back", maps(down(3, 2)), maps(down(10, 5)), maps(up(7, 2))},
		{"no inner runs", nil, outer, nil}, {"empty inner runs", maps(), maps(up(0, 1)), nil}, {"neither has runs", nil, maps(), nil},
		{"all of outer", maps(up(0, 20)), outer, maps(up(10, 5), down(30, 5), up(50, 10))}, {"all of outer, back", maps(down(19, 20)), outer, maps(down(59, 10), up(26, 5), down(14, 5))}, {"over all borders", maps(up(4, 12)), outer, maps(up(14, 1), down(30, 5), up(50, 6))}, {"over all borders, back", maps(down(15, 12)), outer, maps(down(55, 6), up(26, 5), up(14, 1))},
		{"over one border", maps(up(3, 4)), outer, maps(up(13, 2), down(30, 2))}, {"over one border, back", maps(down(6, 4)), outer, maps(up(29, 2), down(14, 2))}, {"over a border at which outer goes on", maps(up(14, 2)), outer, maps(up(54, 2))}, {"the same, back", maps(down(15, 2)), outer, maps(down(55, 2))},
		{"the last integers of runs", maps(up(4, 1), up(9, 1), up(14, 1), up(19, 1)), outer, maps(up(14, 1), up(26, 1), up(54, 1), up(59, 1))}, {"the first integers of runs", maps(down(0, 1), down(5, 1), down(10, 1), down(15, 1)), outer, maps(up(10, 1), up(30, 1), up(50, 1), up(55, 1))},
		{"up to the end of outer", maps(up(17, 3)), outer, maps(up(57, 3))}, {"back from the end of outer", maps(down(19, 3)), outer, maps(down(59, 3))}, {"back to the beginning of outer", maps(down(2, 3)), outer, maps(down(12, 3))}, {"the last integer of outer", maps(up(19, 1), up(0, 1), down(19, 1)), outer, maps(up(59, 1), up(10, 1), up(59, 1))},
		{"several inner runs", maps(up(8, 2), down(8, 2), up(0, 1)), outer, maps(down(27, 2), up(27, 2), up(10, 1))}, {"runs of which only the images meet", maps(up(3, 2), down(19, 1), up(0, 5)), maps(up(5, 5), up(0, 14), up(10, 1)), maps(up(8, 3), up(5, 5))}, {"inner integers twice", maps(up(0, 3), up(0, 3)), maps(up(10, 5)), maps(up(10, 3), up(10, 3))},
		{"equal images", maps(up(0, 4)), repeated(4, up(7, 1)), repeated(4, up(7, 1))}, {"single images upwards", maps(up(0, 4)), stairs(4, 7, 1, 1, true), maps(up(7, 4))}, {"single images downwards", maps(down(3, 4)), stairs(4, 7, 1, 1, true), maps(down(10, 4))}, {"a rest goes on", maps(up(0, 4)), maps(up(4, 1), down(5, 2), up(3, 1)), maps(up(4, 2), down(4, 2))},
		{"the longest maps", maps(up(0, end)), maps(up(0, end)), maps(up(0, end))}, {"the longest map, inner back", maps(down(end-1, end)), maps(up(0, end)), maps(down(end-1, end))}, {"the longest map, outer back", maps(up(0, end)), maps(down(end-1, end)), maps(down(end-1, end))}, {"the longest map, both back", maps(down(end-1, end)), maps(down(end-1, end)), maps(up(0, end))}, {"halves", maps(up(half, half), up(0, half)), maps(up(half, half), up(0, half)), maps(up(0, end))}, {"halves, back", maps(up(half, half), down(half-1, half)), maps(up(half, half), up(0, half)), maps(up(0, half), down(end-1, half))}, {"the last image of a long map", maps(up(end-1, 1)), maps(down(end-1, end)), maps(up(0, 1))},
	} {
		m, e := iso.Compose(c.inner, c.outer)
		expect(t, c.name, m, e, c.want)
	}
}

// expectComposed compares with the images of the model.
func expectComposed(t *testing.T, inner []api.Run, outer []api.Run) {
	t.Helper()
	m, e := iso.Compose(inner, outer)
	images, ok := composedOf(inner, outer)
	if !ok {
		expectRefused(t, "Compose of images outside the domain", len(m), e, api.ErrLength)
		return
	}
	expectFull(t, "Compose", m, e, normalOf(images))
}

func TestCompose(t *testing.T) {
	inners := tuples(2, runs(3, 2))
	for _, outer := range tuples(2, runs(4, 3)) {
		for _, inner := range inners {
			expectComposed(t, inner, outer)
		}
	}
	long := walks(3, 9, 30, 130, 200, 256)
	for i, inner := range long {
		for k := range 12 {
			expectComposed(t, inner, long[(i*7+k*37)%len(long)])
		}
	}
}

func TestComposeOfLongMaps(t *testing.T) {
	for _, outer := range long() {
		n := lengthOf(outer)
		inners := [][]api.Run{maps(up(0, n)), maps(down(n-1, n))}
		// Each run of inner can go over all runs of outer, so that those of several runs may become too many.
		if len(outer) < most/4 && n > 99 {
			inners = append(inners, maps(up(n-1, 1), down(n-1, n-1)), maps(up(n/3, n/2), down(n-1, n/2)), maps(down(n/2, n/3+1), down(n-1, n/2), up(0, n/8+1)), maps(down(n/2, n/2+1), up(n/2, n-n/2-1)))
		}
		for _, inner := range inners {
			m, e := iso.Compose(inner, outer)
			expectLong(t, "Compose", m, e, lengthOf(inner), composedBorders(inner, outer), func(x int) int { return imageOf(outer, imageOf(inner, x)) })
		}
	}
}

func TestComposeOfImagesOutsideTheDomain(t *testing.T) {
	for _, outer := range [][]api.Run{maps(up(10, 5)), maps(down(10, 5)), maps(up(10, 2), up(0, 3)), repeated(5, up(1, 1)), maps(up(5, 1), up(6, 4))} {
		fine := maps(up(0, 5), down(4, 5), up(4, 1))
		m, e := iso.Compose(fine, outer)
		expect(t, "Compose", m, e, normalOf(slices.Concat(imagesOf(outer), imagesOf(mirrored(outer)), imagesOf(outer)[4:])))
		for _, r := range maps(up(5, 1), down(5, 1), up(4, 2), up(0, 6), down(5, 6), down(5, 2), up(6, 1), down(6, 2), down(9, 3), up(5, end-5), down(end-1, end-20), up(end-1, 1)) {
			for i := range fine {
				m, e := iso.Compose(changed(fine, i, r), outer)
				expectRefused(t, "Compose", len(m), e, api.ErrLength)
			}
			m, e := iso.Compose(maps(r), outer)
			expectRefused(t, "Compose", len(m), e, api.ErrLength)
		}
	}
	for _, inner := range [][]api.Run{maps(up(0, 1)), maps(down(0, 1)), maps(up(0, end)), maps(up(end-1, 1)), repeated(most, up(0, 1))} {
		for _, outer := range [][]api.Run{nil, {}} {
			m, e := iso.Compose(inner, outer)
			expectRefused(t, "Compose into a map without runs", len(m), e, api.ErrLength)
		}
	}
	for _, inner := range [][]api.Run{maps(up(0, end)), maps(down(end-1, end)), maps(up(end-1, 1)), maps(down(end-1, 1)), maps(up(0, 1), up(end-1, 1))} {
		m, e := iso.Compose(inner, maps(up(0, end-1)))
		expectRefused(t, "Compose of the last image of all", len(m), e, api.ErrLength)
	}
}

// mirrored has the runs of m in the other direction.
func mirrored(m []api.Run) []api.Run {
	images := imagesOf(m)
	slices.Reverse(images)
	return normalOf(images)
}

// The runs of the normal form count, not the pieces that are found.
func TestComposeIsFull(t *testing.T) {
	flat := repeated(most, up(7, 2))
	steps := stairs(most, 0, 2, 2, false)
	for _, c := range []struct {
		name         string
		inner, outer []api.Run
		n            int
	}{
		{"one run over 256", maps(up(0, 2*most)), flat, most}, {"one run over 256, back", maps(down(2*most-1, 2*most)), flat, most}, {"one run more", maps(up(0, 2*most), up(0, 1)), flat, most + 1}, {"one run before", maps(up(1, 1), down(2*most-1, 2*most)), flat, most + 1}, {"one run more that goes on", maps(up(0, 2*most-1), up(1, 1)), flat, most},
		{"256 runs within one", repeated(most, up(3, 2)), maps(down(9, 8)), most}, {"256 runs within one, inner back", repeated(most, down(3, 2)), maps(up(9, 8)), most}, {"128 runs over two", repeated(most/2, up(3, 4)), maps(up(9, 5), up(9, 5)), most}, {"128 runs over two, and one more", append(repeated(most/2, up(3, 4)), up(0, 2)), maps(up(9, 5), up(9, 5)), most + 1}, {"129 runs over two", repeated(most/2+1, up(3, 4)), maps(up(9, 5), up(9, 5)), most + 2}, {"127 runs over two, and two more", append(repeated(most/2-1, up(3, 4)), up(0, 2), up(0, 2)), maps(up(9, 5), up(9, 5)), most},
		{"512 pieces in one run", maps(up(0, most), up(most, most)), steps, 1}, {"65536 pieces in 256 runs", repeated(most, up(0, 2*most)), steps, most}, {"65536 pieces in 256 runs, back", repeated(most, down(2*most-1, 2*most)), steps, most}, {"65281 pieces in 257 runs", changed(repeated(most, up(0, 2*most-2)), 77, up(0, 2*most)), changed(steps, most-1, up(9, 2)), most + 1}, {"65281 pieces in 256 runs", changed(repeated(most, up(0, 2*most-2)), 77, up(0, 2*most)), steps, most}, {"65536 pieces", repeated(most, up(0, 2*most)), flat, most * most}, {"65536 pieces, back", repeated(most, down(2*most-1, 2*most)), flat, most * most},
		{"256 inner runs that become one", stairs(most, 0, 2, 2, false), maps(up(1, 2*most)), 1}, {"256 outer runs that become one", maps(down(2*most-1, 2*most)), steps, 1}, {"single images, one of them more", append(stairs(most-1, 0, 2, 1, false), up(0, 2)), maps(up(0, 2*most)), most}, {"single images of which two meet", append(stairs(most-1, 0, 2, 1, false), up(0, 3)), append(stairs(most-1, 0, 4, 2, false), up(9, 2)), most + 1},
	} {
		images, ok := composedOf(c.inner, c.outer)
		want := normalOf(images)
		if !ok || len(want) != c.n {
			t.Fatalf("%s: the normal form has %d runs, not %d", c.name, len(want), c.n)
		}
		m, e := iso.Compose(c.inner, c.outer)
		expectFull(t, c.name, m, e, want)
	}
}

// Too many runs come before or behind an image outside of the domain.
func TestComposeFindsImagesOutsideTheDomainFirst(t *testing.T) {
	outer := repeated(most, up(7, 2))
	full := maps(up(0, 2*most), up(0, 2*most))
	for i := range 3 {
		for _, r := range maps(up(2*most, 1), down(2*most, 2*most), up(2*most-1, 2), up(0, end)) {
			m, e := iso.Compose(slices.Insert(slices.Clone(full), i, r), outer)
			expectRefused(t, "Compose", len(m), e, api.ErrLength)
		}
	}
	m, e := iso.Compose(full, outer)
	expectRefused(t, "Compose", len(m), e, api.ErrFull)
}

// P13.5

func TestPartExamples(t *testing.T) {
	m := maps(up(10, 3), down(7, 2), up(6, 4))
	whole := maps(up(0, end))
	for _, c := range []struct {
		name    string
		m, want []api.Run
		s       api.Span
	}{
		{"no runs", nil, nil, part(0, 0)}, {"nothing at the beginning", m, nil, part(0, 0)}, {"nothing within a run", m, nil, part(4, 4)}, {"nothing at a border", m, nil, part(3, 3)}, {"nothing at the end", m, nil, part(9, 9)}, {"nothing at the end of the longest map", whole, nil, part(end, end)},
		{"the whole map", m, maps(up(10, 3), down(7, 2), up(6, 4)), part(0, 9)}, {"a map that is not normal", maps(up(3, 1), down(4, 1), up(5, 1)), maps(up(3, 3)), part(0, 3)}, {"a part of it", maps(up(3, 1), down(4, 1), up(5, 1)), maps(up(4, 2)), part(1, 3)},
		{"at the beginning", m, maps(up(10, 2)), part(0, 2)}, {"the first integer", m, maps(up(10, 1)), part(0, 1)}, {"at the end", m, maps(up(8, 2)), part(7, 9)}, {"the last integer", m, maps(up(9, 1)), part(8, 9)}, {"one run", m, maps(down(7, 2)), part(3, 5)}, {"within one run", m, maps(up(7, 2)), part(6, 8)}, {"within one run, back", maps(down(20, 9)), maps(down(17, 4)), part(3, 7)}, {"one integer of a run back", m, maps(up(6, 1)), part(4, 5)}, {"one integer of each of two runs", m, maps(up(12, 1), up(7, 1)), part(2, 4)}, {"the last integer of a run turns with the next run", m, maps(up(6, 1), up(6, 3)), part(4, 8)}, {"over all runs", m, maps(up(11, 2), down(7, 2), up(6, 1)), part(1, 6)},
		{"the last integer of a run goes on in the other direction", maps(up(5, 2), down(7, 3)), maps(up(6, 2), down(6, 2)), part(1, 5)}, {"the last integer of a run up turns down", maps(up(5, 3), down(6, 3)), maps(down(7, 4)), part(2, 6)}, {"the last integer of a run down turns up", maps(down(5, 3), up(4, 3)), maps(up(3, 4)), part(2, 6)},
		{"the longest map", whole, whole, part(0, end)}, {"its last integer", whole, maps(up(end-1, 1)), part(end-1, end)}, {"all but its ends", whole, maps(up(1, end-2)), part(1, end-1)}, {"the last integer of the longest map, back", maps(down(end-1, end)), maps(up(0, 1)), part(end-1, end)}, {"a part of the longest map, back", maps(down(end-1, end)), maps(down(half, 9)), part(half-1, half+8)}, {"256 runs", repeated(most, up(0, 3)), repeated(most, up(0, 3)), part(0, 3*most)}, {"256 runs, cut at both ends", repeated(most, up(0, 3)), append(append(maps(up(1, 2)), repeated(most-2, up(0, 3))...), up(0, 1)), part(1, 3*most-2)}, {"a part over a border of long runs", maps(up(0, half), down(end-1, half)), maps(up(half-2, 2), down(end-1, 3)), part(half-2, half+3)},
	} {
		p, e := iso.Part(c.m, c.s)
		expect(t, c.name, p, e, c.want)
	}
}

// Of maps with more images only the parts near borders are asked for.
func TestPart(t *testing.T) {
	for _, m := range short() {
		images := imagesOf(m)
		for from := range len(images) + 1 {
			for to := from; to <= len(images); to++ {
				if len(images) > 30 && (from*to)%97 != 1 {
					continue
				}
				p, e := iso.Part(m, part(from, to))
				expect(t, "Part", p, e, normalOf(images[from:to]))
			}
		}
	}
	for _, m := range long() {
		n := lengthOf(m)
		for _, s := range []api.Span{part(0, n), part(0, n/2), part(n/2, n), part(n/3, n-n/3), part(n-1, n), part(0, 1), part(n/5, n/5+n/3), part(n, n)} {
			p, e := iso.Part(m, s)
			var places []int
			for _, b := range borders(m) {
				places = append(places, b-s.From)
			}
			expectLong(t, "Part", p, e, s.To-s.From, places, func(x int) int { return imageOf(m, s.From+x) })
		}
	}
}

// badSpans are not within 0 to n.
func badSpans(n int) []api.Span {
	l := spans(1, 0, n, n-1, n, 0, n+1, n, n/2+1, n/2, n+1, n+1, n+2, n+1, n+1, 0)
	for _, x := range []int{-1, -2, -end, -end - 1, math.MinInt, math.MinInt + 1, n + 1, n + 2, 2*n + 1, 2*end + 1, 1 << 62, math.MaxInt - 1, math.MaxInt} {
		l = append(l, spans(0, x, x, 0, x, n, n, x, x, x, n/2, x, x, n/2, x, x+1, x, end, end+1, x, -1, x, x, -1)...)
	}
	l = append(l, spans(math.MinInt, math.MaxInt, math.MaxInt, math.MinInt)...)
	return slices.DeleteFunc(l, func(s api.Span) bool { return 0 <= s.From && s.From <= s.To && s.To <= n })
}

func TestPartRefuses(t *testing.T) {
	for _, m := range slices.Concat(long(), walks(1, 2, 256), [][]api.Run{nil, {}, maps(up(10, 3), down(7, 2)), maps(down(3, 1)), repeated(most, up(end-1, 1))}) {
		for _, s := range badSpans(lengthOf(m)) {
			p, e := iso.Part(m, s)
			expectRefused(t, "Part", len(p), e, api.ErrRange)
		}
	}
}

func TestJoinExamples(t *testing.T) {
	whole := maps(up(0, end))
	for _, c := range []struct {
		name       string
		a, b, want []api.Run
	}{
		{"neither has runs", nil, maps(), nil}, {"no second runs", maps(up(3, 2)), nil, maps(up(3, 2))}, {"no first runs", maps(), maps(down(3, 2)), maps(down(3, 2))}, {"maps that are not normal", maps(up(3, 1), up(4, 1)), maps(down(9, 1)), maps(up(3, 2), up(9, 1))}, {"only a second map that is not normal", nil, maps(up(4, 1), down(3, 1)), maps(down(4, 2))},
		{"no meeting", maps(up(3, 2)), maps(up(3, 2)), maps(up(3, 2), up(3, 2))}, {"meeting upwards", maps(up(0, 1), up(3, 2)), maps(up(5, 2), up(0, 1)), maps(up(0, 1), up(3, 4), up(0, 1))}, {"meeting downwards", maps(down(9, 2)), maps(down(7, 2)), maps(down(9, 4))}, {"first alone goes on", maps(up(3, 2)), maps(down(5, 3)), maps(up(3, 3), down(4, 2))}, {"first alone goes on downwards", maps(down(5, 2)), maps(up(3, 3)), maps(down(5, 3), up(4, 2))}, {"two single ones upwards", maps(down(3, 1)), maps(down(4, 1)), maps(up(3, 2))}, {"two single ones downwards", maps(up(3, 1)), maps(up(2, 1)), maps(down(3, 2))}, {"a single one takes the first of a run", maps(up(4, 1)), maps(up(3, 2)), maps(down(4, 2), up(4, 1))}, {"a single one between", maps(up(3, 2), up(5, 1)), maps(up(6, 1), down(5, 2)), maps(up(3, 4), down(5, 2))},
		{"the longest map and none", whole, nil, whole}, {"none and the longest map", nil, maps(down(end-1, end)), maps(down(end-1, end))}, {"the longest map of two", maps(up(0, half)), maps(up(half, half)), whole}, {"the longest map of two, back", maps(down(end-1, half)), maps(down(half-1, half)), maps(down(end-1, end))}, {"the longest map with one integer first", maps(up(0, 1)), maps(up(1, end-1)), whole}, {"the longest map with one integer last", maps(up(0, end-1)), maps(down(0, 1)), maps(up(0, end-1), up(0, 1))}, {"a sum of MaxLength of many", repeated(most/2, up(0, each)), repeated(most/2, up(0, each)), repeated(most, up(0, each))},
		{"256 runs and none", repeated(most, up(0, 2)), nil, repeated(most, up(0, 2))}, {"none and 256 runs", nil, repeated(most, up(0, 2)), repeated(most, up(0, 2))}, {"256 runs together", repeated(most-1, up(0, 2)), maps(up(0, 2)), repeated(most, up(0, 2))}, {"256 runs together, most of them in the second", maps(up(0, 2)), repeated(most-1, up(0, 2)), repeated(most, up(0, 2))}, {"257 runs of which two meet", repeated(most, up(0, 2)), maps(up(2, 2)), append(repeated(most-1, up(0, 2)), up(0, 4))}, {"257 runs of which the first two meet", maps(up(3, 1), up(4, 1)), repeated(most-1, up(0, 2)), append(maps(up(3, 2)), repeated(most-1, up(0, 2))...)}, {"512 runs that become one", stairs(most, 0, 2, 2, false), stairs(most, 2*most, 2, 2, false), maps(up(0, 4*most))}, {"512 runs that become one, back", stairs(most, 2*most-1, -1, 1, false), stairs(most, most-1, -1, 1, false), maps(down(2*most-1, 2*most))}, {"512 runs that become 256", repeated(most/2, up(0, 2), up(2, 1)), repeated(most/2, down(9, 1), down(8, 2)), append(repeated(most/2, up(0, 3)), repeated(most/2, down(9, 3))...)},
	} {
		m, e := iso.Join(c.a, c.b)
		expect(t, c.name, m, e, c.want)
	}
}

func TestJoin(t *testing.T) {
	pairs := tuples(2, runs(3, 2))
	for _, a := range pairs {
		for _, b := range pairs {
			m, e := iso.Join(a, b)
			expect(t, "Join", m, e, normalOf(append(imagesOf(a), imagesOf(b)...)))
		}
	}
	others := walks(1, 4, 60, 128, 129, 150, 256)
	for _, a := range others {
		for k := 0; k < len(others); k += 5 {
			m, e := iso.Join(a, others[k])
			expectFull(t, "Join", m, e, normalOf(append(imagesOf(a), imagesOf(others[k])...)))
		}
	}
}

func TestJoinRefuses(t *testing.T) {
	whole := maps(up(0, end))
	for _, c := range []struct {
		name string
		a, b []api.Run
		e    api.Errno
	}{
		{"one integer too long", whole, maps(up(0, 1)), api.ErrLength}, {"one integer before the longest map", maps(down(7, 1)), whole, api.ErrLength}, {"the longest map twice", whole, whole, api.ErrLength}, {"the longest map twice, back", maps(down(end-1, end)), maps(down(end-1, end)), api.ErrLength}, {"halves, and one integer", maps(up(0, half)), maps(up(half, half), up(0, 1)), api.ErrLength}, {"halves, one integer longer", maps(up(0, half+1)), maps(up(half, half)), api.ErrLength}, {"the longest maps of 256 runs", repeated(most, up(0, each)), stairs(most, 0, each, each, false), api.ErrLength},
		{"257 runs", repeated(most, up(0, 2)), maps(up(0, 2)), api.ErrFull}, {"257 runs, most of them in the second", maps(up(0, 1)), repeated(most, up(0, 2)), api.ErrFull}, {"257 runs in the middle", repeated(most/2, up(0, 2)), repeated(most/2+1, up(0, 2)), api.ErrFull}, {"512 runs", repeated(most, up(0, 2)), repeated(most, up(0, 2)), api.ErrFull}, {"512 runs that become 257", repeated(most/2, up(0, 2), up(2, 1)), append(repeated(most/2-1, down(9, 1), down(8, 2)), up(0, 1), up(0, 1)), api.ErrFull}, {"a rest too many", append(repeated(most-1, up(0, 2)), up(4, 2)), maps(down(6, 2)), api.ErrFull}, {"257 runs of MaxLength together", changed(repeated(most, up(0, 2)), 0, up(0, end-2*most)), maps(up(0, 2)), api.ErrFull},
		{"257 runs, one integer too long", changed(repeated(most, up(0, 2)), 0, up(0, end-2*most)), maps(up(0, 3)), api.ErrLength}, {"257 runs, far too long", repeated(most, up(0, each)), maps(up(0, 1)), api.ErrLength}, {"512 runs, far too long", repeated(most, up(0, each)), repeated(most, up(0, each)), api.ErrLength},
	} {
		m, e := iso.Join(c.a, c.b)
		expectRefused(t, c.name, len(m), e, c.e)
	}
}

func TestReverseExamples(t *testing.T) {
	for _, c := range []struct {
		name    string
		m, want []api.Run
	}{
		{"nil", nil, nil}, {"no runs", maps(), nil}, {"the example", maps(up(10, 3)), maps(down(12, 3))}, {"one integer", maps(up(10, 1)), maps(up(10, 1))}, {"one integer, back", maps(down(10, 1)), maps(up(10, 1))}, {"a run back", maps(down(12, 3)), maps(up(10, 3))},
		{"two runs", maps(up(10, 3), down(7, 2)), maps(up(6, 2), down(12, 3))}, {"runs that meet", maps(up(3, 2), up(5, 1), up(6, 2)), maps(down(7, 5))}, {"4, 5, 4", maps(up(4, 2), up(4, 1)), maps(up(4, 2), up(4, 1))}, {"5, 6, 7, 6", maps(up(5, 3), up(6, 1)), maps(up(6, 2), down(6, 2))}, {"5, 6, 7, 6, 5", maps(up(5, 3), down(6, 2)), maps(up(5, 3), down(6, 2))}, {"7, 6, 5, 6", maps(down(7, 3), up(6, 1)), maps(down(6, 2), up(6, 2))}, {"single ones", maps(up(3, 1), up(9, 1), down(3, 1)), maps(up(3, 1), up(9, 1), up(3, 1))},
		{"the longest map", maps(up(0, end)), maps(down(end-1, end))}, {"the longest map, back", maps(down(end-1, end)), maps(up(0, end))}, {"the longest map of two runs", maps(up(0, half), down(end-1, half)), maps(up(half, half), down(half-1, half))}, {"256 runs", repeated(most, up(0, each)), repeated(most, down(each-1, each))}, {"256 runs back", repeated(most, down(each-1, each)), repeated(most, up(0, each))}, {"256 runs that become one", stairs(most, 0, each, each, false), maps(down(end-1, end))}, {"256 equal single ones", repeated(most, up(9, 1)), repeated(most, up(9, 1))},
	} {
		m, e := iso.Reverse(c.m)
		expect(t, c.name, m, e, c.want)
	}
}

func TestReverse(t *testing.T) {
	for _, m := range short() {
		r, e := iso.Reverse(m)
		expect(t, "Reverse", r, e, mirrored(m))
	}
	for _, m := range accepted() {
		n := lengthOf(m)
		var places []int
		for _, b := range borders(m) {
			places = append(places, n-b)
		}
		r, e := iso.Reverse(m)
		expectLong(t, "Reverse", r, e, n, places, func(x int) int { return imageOf(m, n-1-x) })
	}
}

// P13.6

func TestImageExamples(t *testing.T) {
	for _, c := range []struct {
		name string
		m    []api.Run
		want []api.Span
	}{
		{"nil", nil, nil}, {"no runs", maps(), nil}, {"the example", maps(up(10, 3), up(10, 3)), spans(10, 13)}, {"one integer", maps(up(5, 1)), spans(5, 6)}, {"one integer, back", maps(down(5, 1)), spans(5, 6)}, {"a run back", maps(down(5, 3)), spans(3, 6)}, {"0", maps(down(0, 1)), spans(0, 1)}, {"the last integer", maps(up(end-1, 1)), spans(end-1, end)},
		{"apart", maps(up(10, 3), down(20, 2)), spans(10, 13, 19, 21)}, {"apart, the other one first", maps(down(20, 2), up(10, 3)), spans(10, 13, 19, 21)}, {"apart by one integer", maps(up(10, 3), up(14, 2)), spans(10, 13, 14, 16)}, {"apart by one integer, back", maps(down(12, 3), down(15, 2)), spans(10, 13, 14, 16)}, {"touching", maps(up(10, 3), up(13, 2)), spans(10, 15)}, {"touching, back", maps(down(12, 3), down(9, 4)), spans(6, 13)}, {"touching from below", maps(up(10, 3), up(8, 2)), spans(8, 13)}, {"overlapping", maps(up(10, 3), down(13, 2), up(9, 2)), spans(9, 14)}, {"one in another", maps(up(10, 9), down(13, 2)), spans(10, 19)}, {"filling a gap", maps(up(10, 3), up(14, 2), up(13, 1)), spans(10, 16)},
		{"all", maps(up(0, end)), spans(0, end)}, {"all, back", maps(down(end-1, end)), spans(0, end)}, {"all but one", maps(up(0, half), up(half+1, half-1)), spans(0, half, half+1, end)}, {"both ends", maps(up(end-1, 1), up(0, 1)), spans(0, 1, end-1, end)}, {"256 spans", stairs(most, 510, -2, 1, true), combed(most, 0, 2, 1)}, {"256 long spans", stairs(most, each-2, each, each-1, true), combed(most, 0, each, each-1)}, {"256 runs, one span", repeated(most, up(3, 2)), spans(3, 5)}, {"256 runs that touch", stairs(most, end-each, -each, each, false), spans(0, end)},
	} {
		l, e := iso.Image(c.m)
		expectSpans(t, c.name, l, e, c.want)
	}
}

// combed has count spans of n integers, which begin every step integers.
func combed(count int, first int, step int, n int) []api.Span {
	var l []api.Span
	for i := range count {
		l = append(l, part(first+i*step, first+i*step+n))
	}
	return l
}

func TestImage(t *testing.T) {
	for _, m := range short() {
		images := imagesOf(m)
		slices.Sort(images)
		l, e := iso.Image(m)
		expectSpans(t, "Image", l, e, spansOf(1024, func(y int) bool { _, ok := slices.BinarySearch(images, y); return ok }))
	}
}

func TestFindExamples(t *testing.T) {
	m := maps(up(10, 3), up(10, 3), down(20, 2))
	whole, back := maps(up(0, end)), maps(down(end-1, end))
	for _, c := range []struct {
		name string
		m    []api.Run
		s    api.Span
		want []api.Span
	}{
		{"no runs", nil, part(0, end), nil}, {"the example", maps(up(10, 3), up(10, 3)), part(11, 12), spans(1, 2, 4, 5)}, {"nothing", m, part(11, 11), nil}, {"nothing at 0", m, part(0, 0), nil}, {"nothing at the end", m, part(end, end), nil}, {"nothing at the beginning of a run", m, part(10, 10), nil}, {"nothing at the end of a run", m, part(13, 13), nil}, {"nothing in a run back", m, part(20, 20), nil},
		{"everything", m, part(0, end), spans(0, 8)}, {"below all images", m, part(0, 10), nil}, {"beyond all images", m, part(21, end), nil}, {"between images", m, part(13, 19), nil}, {"exactly the images", m, part(10, 21), spans(0, 8)}, {"the first image", m, part(10, 11), spans(0, 1, 3, 4)}, {"the last image of runs", m, part(12, 13), spans(2, 3, 5, 6)}, {"the first integer of a run back", m, part(20, 21), spans(6, 7)}, {"the last integer of a run back", m, part(19, 20), spans(7, 8)}, {"a run back", m, part(13, 30), spans(6, 8)}, {"runs that touch", m, part(0, 13), spans(0, 6)}, {"the end of one run and a run that does not follow", m, part(12, 20), spans(2, 3, 5, 6, 7, 8)}, {"the end of a run and the beginning of the next one", maps(up(10, 3), down(12, 3)), part(12, 14), spans(2, 4)}, {"both ends", maps(up(10, 3), down(20, 5), up(10, 3)), part(0, 12), spans(0, 2, 8, 10)}, {"within a run back", maps(up(9, 4), down(30, 20)), part(15, 18), spans(17, 20)}, {"within a run back, also before it", maps(up(9, 4), down(30, 20)), part(12, 14), spans(3, 4, 21, 23)},
		{"the longest map, everything", whole, part(0, end), spans(0, end)}, {"the longest map, a part", whole, part(5, end-7), spans(5, end-7)}, {"the longest map, the last integer", whole, part(end-1, end), spans(end-1, end)}, {"the longest map, back, everything", back, part(0, end), spans(0, end)}, {"the longest map, back, a part", back, part(5, end-7), spans(7, end-5)}, {"the longest map, back, the last integer", back, part(end-1, end), spans(0, 1)}, {"the longest map, back, 0", back, part(0, 1), spans(end-1, end)}, {"the longest map, back, nothing", back, part(end, end), nil}, {"the longest map, back, nothing at 0", back, part(0, 0), nil}, {"two halves", maps(up(0, half), down(half-1, half)), part(3, half), spans(3, end-3)},
		{"256 spans", repeated(most, up(0, 2)), part(1, 2), combed(most, 1, 2, 1)}, {"256 spans of long runs", repeated(most, down(each-1, each)), part(1, end), combed(most, 0, each, each-1)}, {"256 runs, one span", repeated(most, up(0, each)), part(0, each), spans(0, end)}, {"the last image of all", repeated(most, up(end-1, 1)), part(end-1, end), spans(0, most)}, {"256 runs, nothing", repeated(most, up(0, each)), part(each, end), nil},
	} {
		l, e := iso.Find(c.m, c.s)
		expectSpans(t, c.name, l, e, c.want)
	}
}

func TestFind(t *testing.T) {
	find := func(m []api.Run, s api.Span) {
		images := imagesOf(m)
		l, e := iso.Find(m, s)
		expectSpans(t, "Find", l, e, spansOf(len(images), func(x int) bool { return s.From <= images[x] && images[x] < s.To }))
	}
	for _, m := range slices.Concat(tuples(2, runs(4, 3)), tuples(3, runs(3, 2))) {
		for from := range 8 {
			for to := from; to < 8; to++ {
				find(m, part(from, to))
			}
			find(m, part(from, end))
		}
	}
	next := random()
	for _, m := range walks(4, 7, 30, 256) {
		for range 9 {
			from := next(60)
			find(m, part(from, from+next(60)))
		}
	}
}

func TestFindRefuses(t *testing.T) {
	for _, m := range slices.Concat(long(), [][]api.Run{nil, {}, maps(up(10, 3), down(7, 2)), maps(down(3, 1)), repeated(most, up(end-1, 1))}) {
		for _, s := range badSpans(end) {
			l, e := iso.Find(m, s)
			expectRefused(t, "Find", len(l), e, api.ErrRange)
		}
	}
}

// P13.7

func TestSingleExamples(t *testing.T) {
	for _, c := range []struct {
		name   string
		m      []api.Run
		single bool
	}{
		{"nil", nil, true}, {"no runs", maps(), true}, {"one integer", maps(up(0, 1)), true}, {"one integer, back", maps(down(9, 1)), true}, {"a run", maps(up(3, 4)), true}, {"a run back", maps(down(9, 4)), true}, {"the longest map", maps(up(0, end)), true}, {"the longest map, back", maps(down(end-1, end)), true},
		{"apart", maps(up(10, 3), down(20, 2)), true}, {"touching", maps(up(0, 3), up(3, 3)), true}, {"touching, the other one first", maps(up(3, 3), up(0, 3)), true}, {"touching, back", maps(up(0, 3), down(5, 3)), true}, {"the last image in common", maps(up(0, 3), up(2, 1)), false}, {"the first image in common", maps(up(2, 1), up(2, 3)), false}, {"one image in common", maps(up(0, 3), up(2, 3)), false}, {"one image in common, back", maps(up(0, 3), down(5, 4)), false}, {"one image in common from above", maps(down(4, 3), down(2, 3)), false}, {"one image within", maps(up(0, 9), down(5, 1)), false}, {"the same run", maps(up(10, 3), up(10, 3)), false}, {"the same run, back", maps(up(10, 3), down(12, 3)), false}, {"one image twice", maps(up(4, 1), down(4, 1)), false}, {"the first and the last run", maps(up(0, 2), up(9, 4), up(1, 1)), false}, {"4, 5, 4", maps(up(4, 2), up(4, 1)), false},
		{"halves", maps(up(half, half), down(half-1, half)), true}, {"halves with 0 twice", maps(down(half-1, half), up(0, 1)), false}, {"halves with one image in common", maps(up(0, half), up(half-1, half)), false}, {"the last image of all twice", maps(up(end-1, 1), up(0, 3), down(end-1, 2)), false}, {"256 single ones", stairs(most, 0, 3, 1, true), true}, {"256 single ones, the last two equal", changed(stairs(most, 0, 3, 1, true), most-1, up(3*most-6, 1)), false}, {"256 single ones, the first and the last equal", changed(stairs(most, 0, 3, 1, true), most-1, up(0, 1)), false}, {"256 runs, the longest map", stairs(most, end-each, -each, each, false), true}, {"256 runs that overlap", stairs(most, 0, each-1, each, false), false}, {"256 equal single ones", repeated(most, up(9, 1)), false},
	} {
		if iso.Single(c.m) != c.single {
			t.Errorf("%s: Single(%v of %d) is not %t", c.name, brief(c.m), len(c.m), c.single)
		}
	}
}

func TestSingle(t *testing.T) {
	for _, m := range short() {
		images := imagesOf(m)
		slices.Sort(images)
		n := len(images)
		if want := len(slices.Compact(images)) == n; iso.Single(m) != want {
			t.Fatalf("Single(%v) is not %t", m, want)
		}
	}
}

// The images of most of these maps would be different.
func TestMapsThatCheckRefusesAreNotSingle(t *testing.T) {
	for _, r := range refusals() {
		if iso.Single(r.m) {
			t.Fatalf("Single(%v of %d)", brief(r.m), len(r.m))
		}
	}
}

// P13.8

// valid is a map that is returned without an error.
func valid(t *testing.T, m []api.Run, e api.Errno) []api.Run {
	t.Helper()
	if e != api.OK {
		t.Fatalf("%v, %d", brief(m), e)
	}
	return m
}

func TestTheImageByACompositionIsTheImageOfTheImage(t *testing.T) {
	agrees := func(inner []api.Run, outer []api.Run, x int) {
		m, e := iso.Compose(inner, outer)
		if e != api.OK {
			return
		}
		y, _ := iso.At(inner, x)
		z, _ := iso.At(outer, y)
		expectAt(t, m, x, z)
	}
	inners := tuples(2, runs(3, 2))
	for i, outer := range tuples(2, runs(4, 3)) {
		for k := i % 3; k < len(inners); k += 3 {
			for x := range lengthOf(inners[k]) {
				agrees(inners[k], outer, x)
			}
		}
	}
	for _, outer := range long() {
		for _, inner := range long() {
			places := composedBorders(inner, outer)
			for i := 0; i < len(places); i += 1 + len(places)/50 {
				for x := max(places[i]-1, 0); x < min(places[i]+1, lengthOf(inner)); x++ {
					agrees(inner, outer, x)
				}
			}
		}
	}
}

func TestComposingIsAssociative(t *testing.T) {
	count := 0
	associates := func(a []api.Run, b []api.Run, c []api.Run) {
		ab, e := iso.Compose(a, b)
		bc, f := iso.Compose(b, c)
		if e != api.OK || f != api.OK {
			return
		}
		left, e := iso.Compose(ab, c)
		right, f := iso.Compose(a, bc)
		if !slices.Equal(left, right) || e != f {
			t.Fatalf("Compose of %v, %v and %v: %v, %d and %v, %d", brief(a), brief(b), brief(c), brief(left), e, brief(right), f)
		}
		count++
	}
	small := tuples(2, runs(2, 3))
	for i, a := range small {
		for k, b := range small {
			for n := (i + k) % 16; n < len(small); n += 16 {
				associates(a, b, small[n])
			}
		}
	}
	others := slices.Concat(long(), walks(3, 9, 30))
	for i, a := range others {
		for k, b := range others {
			associates(a, b, others[(5*i+3*k)%len(others)])
		}
	}
	if count < 10000 {
		t.Errorf("only %d compositions", count)
	}
}

// P13.9

func TestJoiningThePartsGivesTheMap(t *testing.T) {
	joins := func(m []api.Run, at int) {
		n, e := iso.Norm(m)
		want := valid(t, n, e)
		before, e := iso.Part(m, part(0, at))
		valid(t, before, e)
		behind, e := iso.Part(m, part(at, lengthOf(m)))
		valid(t, behind, e)
		joined, e := iso.Join(before, behind)
		expect(t, "Join of the parts", joined, e, want)
	}
	for _, m := range short() {
		n := lengthOf(m)
		for at := 0; at <= n; at += 1 + n/40 {
			joins(m, at)
		}
	}
	for _, m := range accepted() {
		places := borders(m)
		for i := 0; i < len(places); i += 1 + len(places)/50 {
			for at := max(places[i]-1, 0); at <= min(places[i]+1, lengthOf(m)); at++ {
				joins(m, at)
			}
		}
	}
}

func TestTheReverseOfTheReverseIsTheNormalForm(t *testing.T) {
	for _, m := range slices.Concat(accepted(), short()) {
		n, e := iso.Norm(m)
		want := valid(t, n, e)
		r, e := iso.Reverse(m)
		r, e = iso.Reverse(valid(t, r, e))
		expect(t, "Reverse of Reverse", r, e, want)
	}
}

// P13.10

func TestSingleMapsHaveAsManyImagesAsIntegers(t *testing.T) {
	for _, m := range slices.Concat(accepted(), short(), tuples(1, runs(9, 9))) {
		l, e := iso.Image(m)
		count := 0
		for _, s := range l {
			count += s.To - s.From
		}
		n, f := iso.Length(m)
		if e != api.OK || f != api.OK || iso.Single(m) != (count == n) {
			t.Fatalf("Single(%v of %d) = %t, with %d images of %d integers, %d, %d", brief(m), len(m), iso.Single(m), count, n, e, f)
		}
	}
}

func TestFindOfAnImageOfASingleMap(t *testing.T) {
	finds := func(m []api.Run, x int) {
		y, e := iso.At(m, x)
		if e != api.OK {
			t.Fatalf("At(%v, %d) = %d", brief(m), x, e)
		}
		l, e := iso.Find(m, part(y, y+1))
		expectSpans(t, "Find of an image", l, e, spans(x, x+1))
	}
	count := 0
	for _, m := range slices.Concat(accepted(), short()) {
		if !iso.Single(m) {
			continue
		}
		count++
		for _, b := range borders(m) {
			for x := max(b-2, 0); x < min(b+2, lengthOf(m)); x++ {
				finds(m, x)
			}
		}
	}
	if count < 300 {
		t.Errorf("only %d single maps", count)
	}
}

// Memory

// behind is what lies in the memory of an argument behind its end: runs that would go on.
func behind() []api.Run { return repeated(2*most, up(13, 1)) }

// roomy is a copy of m with room behind it.
func roomy(m []api.Run) []api.Run { return slices.Concat(m, behind())[:len(m)] }

// isKept reports whether m is still what roomy returned for kept.
func isKept(m []api.Run, kept []api.Run) bool {
	return slices.Equal(m[:len(kept)+2*most], slices.Concat(kept, behind()))
}

// spoil also writes to the room behind l, which belongs to a result as well.
func spoil[T any](l []T, with T) {
	l = l[:cap(l)]
	for i := range l {
		l[i] = with
	}
}

// maker is a function of one map with a result that could share its memory.
type maker struct {
	name string
	f    func(m []api.Run) ([]api.Run, api.Errno)
}

func makers() []maker {
	l := []maker{
		{"Norm", iso.Norm}, {"Reverse", iso.Reverse},
		{"Join with no runs", func(m []api.Run) ([]api.Run, api.Errno) { return iso.Join(m, nil) }},
		{"Join of no runs", func(m []api.Run) ([]api.Run, api.Errno) { return iso.Join(nil, m) }},
		{"Join with others", func(m []api.Run) ([]api.Run, api.Errno) { return iso.Join(m, maps(up(3, 2), up(0, 1))) }},
		{"Join with itself", func(m []api.Run) ([]api.Run, api.Errno) { return iso.Join(m, m) }},
		{"Compose into all", func(m []api.Run) ([]api.Run, api.Errno) { return iso.Compose(m, maps(up(0, end))) }},
		{"Compose of all", func(m []api.Run) ([]api.Run, api.Errno) { return iso.Compose(maps(up(0, lengthOf(m))), m) }},
		{"Compose of all, back", func(m []api.Run) ([]api.Run, api.Errno) {
			return iso.Compose(maps(down(lengthOf(m)-1, lengthOf(m))), m)
		}},
		{"Compose with itself", func(m []api.Run) ([]api.Run, api.Errno) { return iso.Compose(m, m) }},
	}
	for _, cut := range spans(0, 0, 1, 0, 0, -1, 1, -1, 2, -2) {
		l = append(l, maker{"Part", func(m []api.Run) ([]api.Run, api.Errno) { return iso.Part(m, part(cut.From, lengthOf(m)+cut.To)) }})
	}
	return l
}

// readers are called for what they might do to their argument alone.
func readers() []func(m []api.Run) {
	return []func(m []api.Run){
		func(m []api.Run) { iso.Check(m) }, func(m []api.Run) { iso.Length(m) }, func(m []api.Run) { iso.At(m, 0) }, func(m []api.Run) { iso.At(m, 3) }, func(m []api.Run) { iso.Single(m) },
		func(m []api.Run) { iso.Image(m) }, func(m []api.Run) { iso.Find(m, part(0, end)) }, func(m []api.Run) { iso.Find(m, part(2, 9)) },
	}
}

// shapes are maps in normal form, which a function might return as they are, others, and some that are refused.
func shapes() [][]api.Run {
	return [][]api.Run{
		nil, maps(up(0, 1)), maps(up(3, 4)), maps(down(5, 4)), maps(down(3, 1)), maps(up(0, 2), up(0, 5)), maps(down(4, 5), down(4, 2), up(1, 1)), maps(up(0, 3), up(3, 1), up(4, 2)), maps(up(5, 2), down(7, 3)), maps(up(3, 1), down(2, 1), up(1, 1)), maps(up(0, end)), maps(up(0, end-9), up(0, 2)),
		repeated(most, up(0, 2)), repeated(most/2, up(0, 2)), stairs(most, 0, 2, 2, false), stairs(most, 255, -1, 1, true), stairs(most-2, 0, 1, 1, true),
		maps(up(0, 3), up(0, 0)), maps(up(0, end), up(0, 2)), repeated(most+1, up(0, 1)),
	}
}

func TestArgumentsAreNotChanged(t *testing.T) {
	for _, m := range shapes() {
		for _, c := range makers() {
			x := roomy(m)
			l, _ := c.f(x)
			if !isKept(x, m) {
				t.Fatalf("%s changes %v", c.name, brief(m))
			}
			spoil(l, up(-7, -8))
			if !isKept(x, m) {
				t.Fatalf("the result of %s shares the memory of %v", c.name, brief(m))
			}
		}
		for i, f := range readers() {
			x := roomy(m)
			f(x)
			if !isKept(x, m) {
				t.Fatalf("reader %d changes %v", i, brief(m))
			}
		}
		for _, other := range shapes() {
			for _, c := range binaries() {
				x, y := roomy(m), roomy(other)
				l, _ := c.f(x, y)
				spoil(l, up(-7, -8))
				if !isKept(x, m) || !isKept(y, other) {
					t.Fatalf("%s changes %v or %v, or its result shares their memory", c.name, brief(m), brief(other))
				}
			}
		}
	}
}

func TestOneMapAsBothArguments(t *testing.T) {
	for _, m := range shapes() {
		for _, c := range binaries() {
			want, e := c.f(slices.Clone(m), slices.Clone(m))
			x := roomy(m)
			l, f := c.f(x, x)
			if !slices.Equal(l, want) || e != f || !isKept(x, m) {
				t.Errorf("%s(%v, the same) = %v, %d, not %v, %d, or it is changed", c.name, brief(m), brief(l), f, brief(want), e)
			}
		}
	}
}

func TestResultsShareNoMemory(t *testing.T) {
	for _, m := range shapes() {
		for _, c := range makers() {
			l, _ := c.f(m)
			kept := slices.Clone(l)
			again, _ := c.f(m)
			spoil(again, up(-7, -8))
			last, _ := c.f(m)
			if !slices.Equal(l, kept) || !slices.Equal(last, kept) {
				t.Fatalf("two results of %s share memory", c.name)
			}
		}
		for _, f := range []func() ([]api.Span, api.Errno){func() ([]api.Span, api.Errno) { return iso.Image(m) }, func() ([]api.Span, api.Errno) { return iso.Find(m, part(1, 4)) }} {
			l, _ := f()
			kept := slices.Clone(l)
			again, _ := f()
			spoil(again, part(-7, -8))
			last, _ := f()
			if !slices.Equal(l, kept) || !slices.Equal(last, kept) {
				t.Fatal("two results share memory")
			}
		}
	}
}
