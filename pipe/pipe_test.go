package pipe_test

import (
	"slices"
	"testing"

	"papermill/api"
	"papermill/pipe"
)

// P19.1

func testCheck(t *testing.T, p api.Pipe) api.Errno {
	t.Helper()
	before := copied(p)
	wanted := outcome(func() { modelCheck(p) })
	if e := pipe.Check(p); e != wanted {
		t.Fatalf("Check(%v) = %d, not %d", p, e, wanted)
	}
	if !same(p, before) {
		t.Fatalf("%v is changed to %v", before, p)
	}
	return wanted
}

func TestCheckExamples(t *testing.T) {
	for _, x := range []struct {
		p api.Pipe
		e api.Errno
	}{
		{of(10, ints(6, 0), ints(0, 4)), api.OK}, {of(9, ints(6, 0), ints(0, 4)), api.ErrBalance}, {of(11, ints(6, 0), ints(0, 4)), api.ErrBalance}, {of(6, ints(6, 0), ints(0, 4)), api.ErrBalance}, {of(4, ints(6, 0), ints(0, 4)), api.ErrBalance}, {of(heavy, ints(6, 0), ints(0, 4)), api.ErrBalance}, {of(1, ints(6, 0), ints(0, 4)), api.ErrBalance}, {of(0, ints(6, 0), ints(0, 4)), api.ErrRange},
		{of(1, ints(1)), api.OK}, {of(1, ints(0)), api.ErrEmpty}, {of(1, ints(2)), api.ErrBalance}, {of(2, ints(1)), api.ErrBalance}, {of(1, ints(0, 1, 0)), api.OK}, {of(2, ints(1, 1)), api.OK}, {of(2, ints(1), ints(1)), api.OK}, {of(2, ints(1), ints(0), ints(1)), api.ErrEmpty}, {of(2, ints(1), ints(1), ints(0)), api.ErrEmpty}, {of(2, ints(1), ints(1, 0)), api.ErrKind}, {of(2, ints(1, 0), ints(1)), api.ErrKind}, {of(2, ints(), ints(1), ints(1)), api.ErrKind}, {of(2, ints(1), ints(), ints(1)), api.ErrKind}, {of(1), api.ErrEmpty}, {api.Pipe{Hold: 1, Plugs: [][]int{}}, api.ErrEmpty}, {of(1, nil), api.ErrKind}, {api.Pipe{}, api.ErrRange},
		{of(heavy, ints(heavy)), api.OK}, {of(heavy, ints(heavy-1, 1)), api.OK}, {of(heavy, ints(heavy-1), ints(1)), api.OK}, {of(heavy, ints(1), ints(heavy-1)), api.OK}, {of(heavy, ints(heavy), ints(1)), api.ErrBalance}, {of(heavy, ints(heavy, 1)), api.ErrBalance}, {of(heavy, ints(heavy-1)), api.ErrBalance}, {of(heavy, ints(heavy+1)), api.ErrRange}, {of(heavy, ints(heavy+1, -1)), api.ErrRange}, {of(heavy+1, ints(heavy, 1)), api.ErrRange}, {of(heavy, repeated(most, heavy/most)), api.OK}, {of(heavy, repeated(most, heavy/most), only(most, 0, 1)), api.ErrBalance}, {of(heavy, alike(many, heavy/many)...), api.OK}, {of(heavy, alike(many, repeated(most, heavy)...)...), api.ErrBalance}, {of(8, repeated(most, 1)), api.OK}, {of(9, repeated(most+1, 1)), api.ErrKind},
		{of(many, alike(many, 1)...), api.OK}, {of(many-1, alike(many-1, 1)...), api.OK}, {of(many+1, alike(many+1, 1)...), api.ErrFull}, {of(many, alike(many+1, 1)...), api.ErrFull}, {of(many, alike(many+1, 0)...), api.ErrFull}, {of(many, alike(many+1, -1)...), api.ErrFull}, {of(many, alike(many+1)...), api.ErrFull}, {of(many, alike(65537, 1)...), api.ErrFull}, {of(0, alike(65537, 1)...), api.ErrRange}, {of(many, append(alike(many-1, 1), ints(2))...), api.ErrBalance},
		// The sums of these plugs are those of valid pipes if they wrap around, or if only the last one or the plugs with parts are looked at.
		{of(9, ints(great), ints(great), ints(11)), api.ErrRange}, {of(9, ints(least), ints(least), ints(9)), api.ErrRange}, {of(9, ints(10), ints(-1)), api.ErrRange}, {of(9, ints(10, -1)), api.ErrRange}, {of(9, ints(0, 0), ints(4, 5)), api.ErrEmpty}, {of(9, ints(-1, 1), ints(4, 5)), api.ErrRange}, {of(9, ints(4, 5), ints(1, -1)), api.ErrRange},
	} {
		if e := pipe.Check(x.p); e != x.e {
			t.Errorf("Check(%v) = %d, not %d", x.p, e, x.e)
		}
		testCheck(t, x.p)
	}
}

func TestCheckAccepts(t *testing.T) {
	for _, n := range lengths() {
		for _, p := range pipes(n) {
			if e := testCheck(t, p); e != api.OK {
				t.Fatalf("Check(%v) = %d", p, e)
			}
			for _, hold := range ints(p.Hold-1, p.Hold+1, p.Hold+2, 1, 2*p.Hold, heavy, sum(p.Plugs[0])) {
				testCheck(t, of(hold, p.Plugs...))
			}
		}
	}
}

// P19.2

func testNew(t *testing.T, parts []int) api.Errno {
	t.Helper()
	before := slices.Clone(parts)
	var want api.Pipe
	wanted := outcome(func() { want = modelNew(parts) })
	if p, e := pipe.New(parts); e != wanted || !same(p, want) {
		t.Fatalf("New(%v) = %v, %d, not %v, %d", parts, p, e, want, wanted)
	}
	if !slices.Equal(parts, before) {
		t.Fatalf("%v is changed to %v", before, parts)
	}
	return wanted
}

func TestNewExamples(t *testing.T) {
	for _, x := range []struct {
		parts []int
		hold  int
	}{
		{ints(3, 0, 2), 5}, {ints(1), 1}, {ints(0, 1), 1}, {ints(1, 0), 1}, {ints(1, 1), 2}, {ints(heavy), heavy}, {ints(heavy-1, 1), heavy}, {ints(heavy-1, 0, 0), heavy - 1}, {repeated(most, heavy/most), heavy}, {repeated(most, 1), most}, {only(most, most-1, heavy), heavy}, {only(most, 0, 1), 1},
	} {
		p, e := pipe.New(x.parts)
		if e != api.OK || !same(p, of(x.hold, x.parts)) {
			t.Errorf("New(%v) = %v, %d", x.parts, p, e)
		}
	}
}

func TestNew(t *testing.T) {
	next := random()
	for _, n := range lengths() {
		for _, hold := range ints(1, 2, 3, 100, 1000003, heavy-1, heavy) {
			lists := [][]int{cut(n, hold, next), cut(n, hold, next), repeated(n, hold/n), repeated(n, hold/n+1)}
			for i := range n {
				lists = append(lists, only(n, i, hold), changed(repeated(n, hold/n), i, hold/n+hold%n), changed(repeated(n, 1), i, hold))
			}
			for _, parts := range lists {
				if sum(parts) > 0 && sum(parts) <= heavy && testNew(t, parts) != api.OK {
					t.Errorf("New(%v) is refused", parts)
				}
			}
		}
	}
	for n := 1; n <= 5; n++ {
		for _, parts := range small(n, 3) {
			testNew(t, parts)
		}
	}
}

// P19.4

func testContent(t *testing.T, p api.Pipe) api.Errno {
	t.Helper()
	before := copied(p)
	var want []int
	wanted := outcome(func() { want = modelContent(p) })
	if content, e := pipe.Content(p); e != wanted || !slices.Equal(content, want) {
		t.Fatalf("Content(%v) = %v, %d, not %v, %d", p, content, e, want, wanted)
	}
	if !same(p, before) {
		t.Fatalf("%v is changed to %v", before, p)
	}
	return wanted
}

func TestContentExamples(t *testing.T) {
	for _, x := range []struct {
		p       api.Pipe
		content []int
	}{
		{of(12, ints(6, 0), ints(1, 4), ints(0, 1)), ints(7, 5)}, {of(10, ints(6, 0), ints(0, 4)), ints(6, 4)}, {of(5, ints(3, 0, 2)), ints(3, 0, 2)}, {of(1, ints(1)), ints(1)}, {of(1, ints(0, 1)), ints(0, 1)}, {of(3, ints(1), ints(1), ints(1)), ints(3)}, {of(3, ints(0, 1), ints(0, 2)), ints(0, 3)},
		{of(heavy, ints(heavy)), ints(heavy)}, {of(heavy, ints(1, 0), ints(heavy-2, 0), ints(0, 1)), ints(heavy-1, 1)}, {of(heavy, alike(many, heavy/many)...), ints(heavy)}, {of(heavy, alike(many, repeated(most, heavy/many/most)...)...), repeated(most, heavy/most)}, {of(heavy, append(alike(many-1, 0, 1), ints(heavy-many+1, 0))...), ints(heavy-many+1, many-1)},
	} {
		if content, e := pipe.Content(x.p); e != api.OK || !slices.Equal(content, x.content) {
			t.Errorf("Content(%v) = %v, %d, not %v", x.p, content, e, x.content)
		}
		testContent(t, x.p)
	}
}

func TestContents(t *testing.T) {
	for _, n := range lengths() {
		for _, p := range pipes(n) {
			testContent(t, p)
		}
	}
	for _, p := range slices.Concat(smallPipes(1, 5, 3), smallPipes(2, 3, 3), smallPipes(3, 2, 2)) {
		testContent(t, p)
	}
}

func testAge(t *testing.T, p api.Pipe, plug int) api.Errno {
	t.Helper()
	before := copied(p)
	want := 0
	wanted := outcome(func() { want = modelAge(p, plug) })
	if age, e := pipe.Age(p, plug); e != wanted || age != want {
		t.Fatalf("Age(%v, %d) = %d, %d, not %d, %d", p, plug, age, e, want, wanted)
	}
	if !same(p, before) {
		t.Fatalf("%v is changed to %v", before, p)
	}
	return wanted
}

func TestAgeExamples(t *testing.T) {
	three := of(12, ints(6, 0), ints(1, 4), ints(0, 1))
	full := of(heavy, alike(many, heavy/many)...)
	for _, x := range []struct {
		p    api.Pipe
		plug int
		age  int
		e    api.Errno
	}{
		{three, 0, 6, api.OK}, {three, 1, 11, api.OK}, {three, 2, 12, api.OK}, {three, 3, 0, api.ErrNone}, {three, -1, 0, api.ErrNone}, {three, great, 0, api.ErrNone}, {three, least, 0, api.ErrNone}, {of(1, ints(1)), 0, 1, api.OK}, {of(1, ints(1)), 1, 0, api.ErrNone}, {of(1, ints(1)), -1, 0, api.ErrNone}, {of(5, ints(0, 5, 0)), 0, 5, api.OK}, {of(5, ints(0, 5, 0)), 1, 0, api.ErrNone},
		{full, 0, heavy / many, api.OK}, {full, 1, heavy / many * 2, api.OK}, {full, many / 2, heavy/2 + heavy/many, api.OK}, {full, many - 2, heavy - heavy/many, api.OK}, {full, many - 1, heavy, api.OK}, {full, many, 0, api.ErrNone}, {of(heavy, ints(heavy)), 0, heavy, api.OK}, {of(heavy, ints(heavy-1), ints(1)), 0, heavy - 1, api.OK}, {of(heavy, ints(1), ints(heavy-1)), 0, 1, api.OK},
	} {
		if age, e := pipe.Age(x.p, x.plug); e != x.e || age != x.age {
			t.Errorf("Age(%v, %d) = %d, %d, not %d, %d", x.p, x.plug, age, e, x.age, x.e)
		}
		testAge(t, x.p, x.plug)
	}
}

// indices are those of the first, some middle and the last plugs, and others.
func indices(p api.Pipe) []int {
	n := len(p.Plugs)
	return append(outside(0, n-1), 0, 1, 2, n/2, n-2, n-1)
}

func TestAges(t *testing.T) {
	for _, n := range lengths() {
		for _, p := range pipes(n) {
			for _, plug := range indices(p) {
				testAge(t, p, plug)
			}
		}
	}
	for _, p := range slices.Concat(smallPipes(1, 5, 3), smallPipes(2, 3, 2)) {
		for plug := range len(p.Plugs) + 1 {
			testAge(t, p, plug)
		}
	}
}

// So much has to be pushed until the last gram of a plug has left: a gram less leaves one gram of it.
func TestAgeIsWhatHasToBePushed(t *testing.T) {
	for _, n := range lengths() {
		for _, p := range pipes(n) {
			for _, plug := range ints(0, len(p.Plugs)/2, len(p.Plugs)-1) {
				age, _ := pipe.Age(p, plug)
				after, _, e := pipe.Push(p, only(n, 0, age))
				if e != api.OK || !equal(after.Plugs, append(slices.Clone(p.Plugs[plug+1:]), only(n, 0, age))) {
					t.Fatalf("Push(%v) of %d = %v, %d", p, age, after, e)
				}
				after, _, e = pipe.Push(p, only(n, 0, age-1))
				if e == api.ErrFull && plug == 0 && len(p.Plugs) == many {
					continue
				}
				if e != api.OK || age > 1 && (sum(after.Plugs[0]) != 1 || len(after.Plugs) != len(p.Plugs)-plug+1 || !equal(after.Plugs[1:len(p.Plugs)-plug], p.Plugs[plug+1:])) {
					t.Fatalf("Push(%v) of %d = %v, %d", p, age-1, after, e)
				}
			}
		}
	}
}
