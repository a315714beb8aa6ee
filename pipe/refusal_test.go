package pipe_test

import (
	"slices"
	"testing"

	"papermill/api"
	"papermill/pipe"
)

// tried is an argument, with the error that it has whatever the arguments behind it are.
type tried[T any] struct {
	x T
	e api.Errno
}

// first returns the first error, in the order in which the chapter lists them.
func first(l ...api.Errno) api.Errno {
	for _, e := range l {
		if e != api.OK {
			return e
		}
	}
	return api.OK
}

// badPlugs are plugs that no pipe has whose first plug has a number of masses.
func badPlugs(kinds int) []tried[[]int] {
	l := []tried[[]int]{{nil, api.ErrKind}, {ints(), api.ErrKind}, {repeated(3, 1)[:0], api.ErrKind}, {make([]int, kinds), api.ErrEmpty}}
	for _, n := range ints(most+1, most+2, 2*most, many, many+1, 65537) {
		for _, x := range ints(0, 1, -1, heavy, heavy+1, least, great) {
			l = append(l, tried[[]int]{repeated(n, x), api.ErrKind})
		}
	}
	for i := range kinds {
		for _, x := range outside(0, heavy) {
			for _, other := range ints(0, 1, heavy) {
				l = append(l, tried[[]int]{changed(repeated(kinds, other), i, x), api.ErrRange})
			}
			// Together with the other mass they may be as much as is in the plug.
			l = append(l, tried[[]int]{changed(only(kinds, (i+1)%kinds, -x), i, x), api.ErrRange}, tried[[]int]{changed(only(kinds, (i+1)%kinds, 1-x), i, x), api.ErrRange}, tried[[]int]{repeated(kinds, x), api.ErrRange})
		}
	}
	return l
}

// otherCounts are plugs that have fewer or more masses than the first plug.
func otherCounts(kinds int) []tried[[]int] {
	var l []tried[[]int]
	for n := range 2 * most {
		if n != kinds {
			for _, x := range ints(0, 1, -1, heavy, great) {
				l = append(l, tried[[]int]{repeated(n, x), api.ErrKind})
			}
		}
	}
	return l
}

func badHolds() []tried[api.Pipe] {
	l := []tried[api.Pipe]{{api.Pipe{}, api.ErrRange}, {api.Pipe{Plugs: [][]int{}}, api.ErrRange}}
	for _, hold := range outside(1, heavy) {
		for _, plugs := range [][][]int{nil, {}, {nil}, {{}}, {{0}}, {{1}}, {{-1}}, {{heavy + 1}}, {{1}, {1, 1}}, {{hold}}, {{heavy}, {1}}, alike(many, 1), alike(many+1, 1), alike(many+1, -1), {repeated(most+1, 1)}} {
			l = append(l, tried[api.Pipe]{of(hold, plugs...), api.ErrRange})
		}
	}
	return l
}

func badCounts() []tried[api.Pipe] {
	var l []tried[api.Pipe]
	for _, hold := range ints(1, 2, many, many+1, heavy) {
		l = append(l, tried[api.Pipe]{of(hold), api.ErrEmpty}, tried[api.Pipe]{api.Pipe{Hold: hold, Plugs: [][]int{}}, api.ErrEmpty}, tried[api.Pipe]{api.Pipe{Hold: hold, Plugs: alike(3, 1)[:0]}, api.ErrEmpty})
		for _, n := range ints(many+1, many+2, 2*many, 513) {
			for _, plug := range [][]int{nil, ints(), ints(1), ints(0), ints(-1), ints(0, 1), ints(heavy), ints(heavy + 1), ints(least), ints(great), repeated(most+1, 1)} {
				l = append(l, tried[api.Pipe]{of(hold, alike(n, plug...)...), api.ErrFull})
			}
		}
		l = append(l, tried[api.Pipe]{of(hold, alike(65537, 1)...), api.ErrFull}, tried[api.Pipe]{of(hold, append(alike(many, 1), ints())...), api.ErrFull}, tried[api.Pipe]{of(hold, append([][]int{nil}, alike(many, 1)...)...), api.ErrFull})
	}
	return l
}

// faulty are pipes with a plug, in the first, a middle and the last place, that is refused; the sum of all plugs is the hold of some of them.
func faulty() []tried[api.Pipe] {
	var l []tried[api.Pipe]
	for _, kinds := range ints(1, 2, 3, most) {
		plug := only(kinds, kinds-1, 2)
		for _, count := range ints(1, 2, 3, many) {
			for _, i := range ints(0, count/2, count-1) {
				for k, bad := range badPlugs(kinds) {
					// Among many plugs, some of the bad ones are enough.
					if count == many && k%7 != i%7 {
						continue
					}
					p := of(2*count, changed(alike(count, plug...), i, bad.x)...)
					l = append(l, tried[api.Pipe]{p, bad.e}, tried[api.Pipe]{of(clamp(2*count-2+sum(bad.x), 1, heavy), p.Plugs...), bad.e})
				}
				for _, bad := range otherCounts(kinds) {
					p := of(2*count, changed(alike(count, plug...), i, bad.x)...)
					if i > 0 {
						l = append(l, tried[api.Pipe]{p, bad.e}, tried[api.Pipe]{of(clamp(2*count-2+sum(bad.x), 1, heavy), p.Plugs...), bad.e})
					}
				}
			}
			// All the other plugs have another number of masses than the first one.
			if n := kinds%most + 1; count > 1 {
				l = append(l, tried[api.Pipe]{of(2*count, changed(alike(count, plug...), 0, only(n, 0, 2))...), api.ErrKind})
			}
		}
	}
	return l
}

// twoFaults are pipes with two faulty plugs: the first one decides.
func twoFaults() []tried[api.Pipe] {
	bad := []tried[[]int]{{ints(), api.ErrKind}, {ints(1), api.ErrKind}, {ints(0), api.ErrKind}, {ints(1, 1, 1), api.ErrKind}, {repeated(most+1, -1), api.ErrKind}, {ints(0, 0), api.ErrEmpty}, {ints(0, -1), api.ErrRange}, {ints(heavy+1, 1), api.ErrRange}, {ints(least, least), api.ErrRange}}
	var l []tried[api.Pipe]
	for _, a := range bad {
		for _, b := range bad {
			for _, p := range []api.Pipe{of(9, ints(4, 5), a.x, b.x), of(9, ints(4, 5), a.x, ints(1, 0), b.x), of(9, ints(4, 5), a.x, ints(1, 0), b.x, ints(0, 1)), of(1, ints(4, 5), ints(1, 1), a.x, b.x)} {
				l = append(l, tried[api.Pipe]{p, a.e})
			}
			// In the first place a plug with 1 or 3 masses is not faulty, but all with 2 masses behind it are.
			if a.e != api.ErrKind || len(a.x) == 0 || len(a.x) > most {
				l = append(l, tried[api.Pipe]{of(9, a.x, b.x), a.e}, tried[api.Pipe]{of(9, a.x, ints(4, 5), b.x), a.e}, tried[api.Pipe]{of(9, a.x, b.x, ints(4, 5)), a.e})
			}
		}
	}
	return l
}

// unbalanced are pipes whose plugs are less or more than their hold, by 1 and by far.
func unbalanced() []tried[api.Pipe] {
	var l []tried[api.Pipe]
	for _, n := range lengths() {
		for _, p := range pipes(n) {
			for _, hold := range ints(p.Hold-1, p.Hold-2, p.Hold+1, p.Hold+2, 1, p.Hold/2, 2*p.Hold, heavy, p.Hold-sum(p.Plugs[0]), p.Hold-sum(p.Plugs[len(p.Plugs)-1])) {
				if hold >= 1 && hold <= heavy && hold != p.Hold {
					l = append(l, tried[api.Pipe]{of(hold, p.Plugs...), api.ErrBalance})
				}
			}
		}
		for _, hold := range ints(1, 9, heavy) {
			l = append(l, tried[api.Pipe]{of(hold, alike(many, repeated(n, heavy)...)...), api.ErrBalance}, tried[api.Pipe]{of(hold, repeated(n, heavy), only(n, 0, 1)), api.ErrBalance}, tried[api.Pipe]{of(hold, only(n, n-1, heavy), repeated(n, heavy-1)), api.ErrBalance})
		}
	}
	return l
}

// several are some of the refused pipes with two kinds, with every error.
func several() []tried[api.Pipe] {
	return []tried[api.Pipe]{
		{api.Pipe{}, api.ErrRange}, {of(0, ints(1, 1)), api.ErrRange}, {of(-1, ints(1, 1)), api.ErrRange}, {of(heavy+1, ints(heavy, 1)), api.ErrRange}, {of(least, ints(1, 1)), api.ErrRange}, {of(great, ints(1, 1)), api.ErrRange},
		{of(1), api.ErrEmpty}, {of(2, ints(1, 1), ints(0, 0)), api.ErrEmpty}, {of(2, ints(0, 0), ints(1, 1)), api.ErrEmpty}, {of(many+1, alike(many+1, 1, 0)...), api.ErrFull},
		{of(2, ints(1, 1), ints(1)), api.ErrKind}, {of(2, ints()), api.ErrKind}, {of(9, repeated(most+1, 1)), api.ErrKind}, {of(2, ints(1, 1), nil), api.ErrKind},
		{of(2, ints(3, -1)), api.ErrRange}, {of(2, ints(1, 1), ints(-1, 1)), api.ErrRange}, {of(2, ints(heavy+1, 0)), api.ErrRange}, {of(2, ints(1, 1), ints(least, least)), api.ErrRange},
		{of(3, ints(1, 1)), api.ErrBalance}, {of(1, ints(1, 1)), api.ErrBalance}, {of(heavy, ints(heavy, 1)), api.ErrBalance}, {of(heavy, ints(heavy, 0), ints(0, 1)), api.ErrBalance},
	}
}

// accepted are pipes with two kinds, the last one with as many plugs as there may be.
func accepted() []tried[api.Pipe] {
	return []tried[api.Pipe]{{of(10, ints(6, 0), ints(0, 4)), api.OK}, {of(2, ints(1, 1)), api.OK}, {of(1, ints(0, 1)), api.OK}, {of(heavy, ints(heavy-1, 1)), api.OK}, {filled(alike(many, 1, 1)...), api.OK}}
}

// P19.1: every function with a pipe returns its error, whatever comes behind.

func TestCheckRefuses(t *testing.T) {
	counts := map[api.Errno]int{}
	for _, p := range slices.Concat(badHolds(), badCounts(), faulty(), twoFaults(), unbalanced(), several()) {
		counts[p.e]++
		if e := testCheck(t, p.x); e != p.e {
			t.Fatalf("Check(%v) = %d, not %d", p.x, e, p.e)
		}
		after, out, push := pipe.Push(p.x, ints(-1))
		content, sums := pipe.Content(p.x)
		age, weight := pipe.Age(p.x, -1)
		if push != p.e || sums != p.e || weight != p.e {
			t.Fatalf("the errors for %v are %d, %d and %d, not %d", p.x, push, sums, weight, p.e)
		}
		if !same(after, api.Pipe{}) || len(out) > 0 || len(content) > 0 || age != 0 {
			t.Fatalf("the results for %v are %v, %v, %v and %d", p.x, after, out, content, age)
		}
	}
	for _, e := range []api.Errno{api.ErrRange, api.ErrEmpty, api.ErrFull, api.ErrKind, api.ErrBalance} {
		if counts[e] < 20 {
			t.Errorf("%d pipes with the error %d", counts[e], e)
		}
	}
}

// P19.2

func TestNewRefuses(t *testing.T) {
	for _, n := range lengths() {
		for _, parts := range badPlugs(n) {
			if e := testNew(t, parts.x); e != parts.e {
				t.Fatalf("New(%v) = %d, not %d", parts.x, e, parts.e)
			}
		}
		for i := range n {
			for _, more := range ints(1, 2, heavy-1, heavy) {
				if n > 1 {
					if e := testNew(t, changed(only(n, (i+1)%n, heavy), i, more)); e != api.ErrRange {
						t.Fatalf("New of %d masses, too many by %d: %d", n, more, e)
					}
				}
			}
		}
		if e := testNew(t, repeated(n, heavy)); n > 1 && e != api.ErrRange {
			t.Fatalf("New of %d masses of MaxMass: %d", n, e)
		}
	}
	for _, parts := range [][]int{ints(heavy, 1), ints(1, heavy), ints(heavy/2, heavy/2, 1), changed(repeated(most, heavy/most), 7, heavy/most+1), ints(heavy+1, 0), ints(-1, 1), ints(heavy+1, -1), ints(1, -1), ints(least, great, 1)} {
		if p, e := pipe.New(parts); e != api.ErrRange || !same(p, api.Pipe{}) {
			t.Errorf("New(%v) = %v, %d", parts, p, e)
		}
	}
	for n := range 2*most + 1 {
		want := api.ErrEmpty
		if n < 1 || n > most {
			want = api.ErrKind
		}
		if p, e := pipe.New(make([]int, n)); e != want || !same(p, api.Pipe{}) {
			t.Errorf("New of %d masses = %v, %d, not %d", n, p, e, want)
		}
	}
}

// P19.3

// badMasses are lists of masses that are pushed into pipes with two kinds.
func badMasses() []tried[[]int] {
	l := []tried[[]int]{{nil, api.ErrKind}}
	for _, masses := range [][]int{ints(), ints(1), ints(0), ints(-1), ints(1, 1, 1), ints(0, 0, 0), ints(0, heavy+1, 0), repeated(most, 1), repeated(most+1, -1), repeated(65537, great)} {
		l = append(l, tried[[]int]{masses, api.ErrKind})
	}
	for _, mass := range outside(0, heavy) {
		for _, masses := range [][]int{ints(mass, 0), ints(0, mass), ints(mass, heavy), ints(heavy, mass), ints(mass, mass), ints(mass, -mass), ints(1-mass, mass)} {
			l = append(l, tried[[]int]{masses, api.ErrRange})
		}
	}
	return l
}

func TestPushRefuses(t *testing.T) {
	masses := append(badMasses(), tried[[]int]{ints(0, 0), api.OK}, tried[[]int]{ints(1, 0), api.OK}, tried[[]int]{ints(1, 1), api.OK})
	for _, p := range append(several(), accepted()...) {
		all := masses
		// Valid masses that are more than the pipe holds, by 1 and by far.
		for _, in := range [][]int{ints(p.x.Hold, 1), ints(1, p.x.Hold), ints(p.x.Hold+1, 0), ints(0, p.x.Hold+1), ints(heavy, 1), ints(1, heavy), ints(heavy, heavy)} {
			if slices.Min(in) >= 0 && slices.Max(in) <= heavy {
				all = append(all[:len(all):len(all)], tried[[]int]{in, api.ErrFull})
			}
		}
		for _, in := range all {
			want := first(p.e, in.e)
			after, out, e := pipe.Push(p.x, in.x)
			if want != api.OK && (e != want || !same(after, api.Pipe{}) || len(out) > 0) {
				t.Fatalf("Push(%v, %v) = %v, %v, %d, not %d", p.x, in.x, after, out, e, want)
			}
			testPush(t, p.x, in.x)
		}
	}
}

// A mass is refused in each place, with any other masses, and so is every other number of masses.
func TestPushRefusesEachMass(t *testing.T) {
	for _, n := range lengths() {
		p := of(7*n+1, repeated(n, 7), only(n, n-1, 1))
		for i := range n {
			for _, mass := range outside(0, heavy) {
				for _, other := range ints(0, 1, heavy) {
					in := changed(repeated(n, other), i, mass)
					if after, out, e := pipe.Push(p, in); e != api.ErrRange || !same(after, api.Pipe{}) || len(out) > 0 {
						t.Fatalf("Push(%v, %v) = %v, %v, %d", p, in, after, out, e)
					}
				}
			}
		}
		for _, in := range otherCounts(n) {
			if after, out, e := pipe.Push(p, in.x); e != in.e || !same(after, api.Pipe{}) || len(out) > 0 {
				t.Fatalf("Push(%v, %v) = %v, %v, %d, not %d", p, in.x, after, out, e, in.e)
			}
		}
	}
}

// P19.4

func TestAgeRefuses(t *testing.T) {
	for _, p := range append(several(), accepted()...) {
		n := len(p.x.Plugs)
		for _, plug := range without(outside(0, n-1), func(plug int) bool { return 0 <= plug && plug < n }) {
			want := first(p.e, api.ErrNone)
			if age, e := pipe.Age(p.x, plug); e != want || age != 0 {
				t.Fatalf("Age(%v, %d) = %d, %d, not %d", p.x, plug, age, e, want)
			}
			testAge(t, p.x, plug)
		}
		// Indices of plugs, which an invalid pipe may have too.
		for plug := range n {
			testAge(t, p.x, plug)
		}
	}
}

func TestContentRefuses(t *testing.T) {
	for _, p := range several() {
		if e := testContent(t, p.x); e != p.e {
			t.Fatalf("Content(%v) = %d, not %d", p.x, e, p.e)
		}
	}
}

// roomy is the same list, in memory that goes on behind it.
func roomy[T any](l []T) []T {
	return append(slices.Grow([]T(nil), len(l)+3), l...)
}

func roomyPipe(p api.Pipe) api.Pipe {
	c := copied(p)
	for i, plug := range c.Plugs {
		c.Plugs[i] = roomy(plug)
	}
	c.Plugs = roomy(c.Plugs)
	return c
}

// testApart writes to all the memory of lists: none of it belongs to two of them.
func testApart(t *testing.T, name string, lists ...[]int) {
	t.Helper()
	for i, l := range lists {
		l = l[:cap(l)]
		for k := range l {
			l[k] = -i
		}
	}
	for i, l := range lists {
		if slices.ContainsFunc(l[:cap(l)], func(n int) bool { return n != -i }) {
			t.Fatalf("%s: lists share memory", name)
		}
	}
}

// testPipesApart fails if two pipes share memory, or one of them shares some with a list or with itself.
func testPipesApart(t *testing.T, name string, lists [][]int, pipes ...api.Pipe) {
	t.Helper()
	for _, p := range pipes {
		lists = append(lists, p.Plugs...)
	}
	testApart(t, name, lists...)
	for i, p := range pipes {
		plugs := p.Plugs[:cap(p.Plugs)]
		for k := range plugs {
			plugs[k] = make([]int, i)
		}
	}
	for i, p := range pipes {
		if slices.ContainsFunc(p.Plugs[:cap(p.Plugs)], func(plug []int) bool { return len(plug) != i }) {
			t.Fatalf("%s: pipes share memory", name)
		}
	}
}

// P19.2 to P19.4: results are new memory.
func TestMemoryOfResults(t *testing.T) {
	for _, n := range lengths() {
		parts := roomy(repeated(n, 7))
		x, e := pipe.New(parts)
		y, f := pipe.New(parts)
		if first(e, f) != api.OK {
			t.Fatalf("New(%v) = %d, %d", parts, e, f)
		}
		testPipesApart(t, "New", [][]int{parts}, x, y)
		for _, count := range ints(1, 2, 3, many) {
			p := filled(alike(count, repeated(n, 2)...)...)
			for _, mass := range ints(0, 2*n, 2*n+1, 3*n, p.Hold/2, p.Hold-1, p.Hold) {
				before, in := roomyPipe(p), roomy(cut(n, min(mass, p.Hold), random()))
				content, e := pipe.Content(before)
				other, f := pipe.Content(before)
				a, outA, g := pipe.Push(before, in)
				b, outB, h := pipe.Push(before, in)
				if first(e, f, g, h) != api.OK {
					t.Fatalf("the errors for %v and %v are %d, %d, %d and %d", before, in, e, f, g, h)
				}
				testPipesApart(t, "Push", [][]int{in, content, other, outA, outB}, before, a, b)
			}
		}
	}
}

// What lies behind the plugs and the masses stays as it is.
func TestMemoryBehindArguments(t *testing.T) {
	for mass := range 13 {
		plugs := [][]int{{6, 0, -5}, {1, 4, -6}, {-7, -8}, {-9}}
		masses := ints(mass, 0, -3, -4)
		p, in := of(11, plugs[0][:2], plugs[1][:2]), masses[:2]
		p.Plugs = slices.Clone(p.Plugs)
		list := append(slices.Grow(p.Plugs, 3), plugs[2:]...)
		p.Plugs = list[:2]
		pipe.Check(p)
		pipe.New(in)
		pipe.Push(p, in)
		pipe.Content(p)
		pipe.Age(p, mass)
		if !equal(plugs, [][]int{{6, 0, -5}, {1, 4, -6}, {-7, -8}, {-9}}) || !equal(list, [][]int{{6, 0}, {1, 4}, {-7, -8}, {-9}}) || !slices.Equal(masses, ints(mass, 0, -3, -4)) {
			t.Fatalf("the memory is changed to %v, %v and %v", plugs, list, masses)
		}
	}
}

// Plugs and masses may lie in the same memory, also shifted.
func TestArgumentsThatShareMemory(t *testing.T) {
	numbers := ints(3, 1, 4, 1, 5, 9, 2, 6)
	for a := range 6 {
		for b := range 6 {
			for c := range 6 {
				memory := slices.Clone(numbers)
				p := filled(memory[a:a+3], memory[b:b+3], memory[a:a+3])
				in := memory[c : c+3]
				testPush(t, p, in)
				testPush(t, p, p.Plugs[0])
				testContent(t, p)
				testAge(t, p, 1)
				testNew(t, in)
				if !slices.Equal(memory, numbers) {
					t.Fatalf("the memory is changed to %v", memory)
				}
			}
		}
	}
}
