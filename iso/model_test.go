package iso_test

import (
	"slices"
	"testing"

	"papermill/api"
)

const (
	end  = api.MaxLength
	most = api.MaxRuns
	half = end / 2
	each = end / most // the length of 256 runs that are the longest map together
)

func up(at int, n int) api.Run               { return api.Run{At: at, Len: n} }
func down(at int, n int) api.Run             { return api.Run{At: at, Len: n, Back: true} }
func maps(l ...api.Run) []api.Run            { return l }
func part(from int, to int) api.Span         { return api.Span{From: from, To: to} }
func repeated(n int, l ...api.Run) []api.Run { return slices.Repeat(l, n) }

// spans takes the ends of the spans one after the other.
func spans(ends ...int) []api.Span {
	var l []api.Span
	for i := 0; i < len(ends); i += 2 {
		l = append(l, part(ends[i], ends[i+1]))
	}
	return l
}

// stairs has count runs of n integers, the first images of which go by step from one to the next.
func stairs(count int, first int, step int, n int, back bool) []api.Run {
	m := make([]api.Run, count)
	for i := range m {
		m[i] = api.Run{At: first + i*step, Len: n, Back: back}
	}
	return m
}

// changed is a copy of m with another run at i.
func changed(m []api.Run, i int, r api.Run) []api.Run {
	m = slices.Clone(m)
	m[i] = r
	return m
}

// brief is what of a map is printed.
func brief(m []api.Run) []api.Run { return m[:min(len(m), 8)] }

// The model: what the document says, for maps that are short enough to list their images.

func imagesOf(m []api.Run) []int {
	l := []int{}
	for _, r := range m {
		for i := range r.Len {
			if r.Back {
				i = -i
			}
			l = append(l, r.At+i)
		}
	}
	return l
}

func normalOf(images []int) []api.Run {
	var m []api.Run
	for x := 0; x < len(images); {
		step := 1
		if x+1 < len(images) && images[x+1] == images[x]-1 {
			step = -1
		}
		n := 1
		for x+n < len(images) && images[x+n] == images[x+n-1]+step {
			n++
		}
		m = append(m, api.Run{At: images[x], Len: n, Back: step == -1})
		x += n
	}
	return m
}

// composedOf is the list of the images by a composition, unless one of the images by inner is not in the domain of outer.
func composedOf(inner []api.Run, outer []api.Run) ([]int, bool) {
	l, behind := imagesOf(inner), imagesOf(outer)
	for i, y := range l {
		if y >= len(behind) {
			return nil, false
		}
		l[i] = behind[y]
	}
	return l, true
}

// spansOf is the normal form of the set of the integers from 0 on, below a limit, that are in it.
func spansOf(limit int, in func(x int) bool) []api.Span {
	var l []api.Span
	for x := range limit {
		switch {
		case !in(x):
		case x > 0 && in(x-1):
			l[len(l)-1].To++
		default:
			l = append(l, part(x, x+1))
		}
	}
	return l
}

// The model for maps of any length, which are compared at the integers where something can change.

func lengthOf(m []api.Run) int {
	n := 0
	for _, r := range m {
		n += r.Len
	}
	return n
}

// imageOf expects an x of the domain.
func imageOf(m []api.Run, x int) int {
	i := 0
	for ; x >= m[i].Len; i++ {
		x -= m[i].Len
	}
	if m[i].Back {
		x = -x
	}
	return m[i].At + x
}

// borders are the positions at which runs begin or end.
func borders(m []api.Run) []int {
	l := []int{0}
	for _, r := range m {
		l = append(l, l[len(l)-1]+r.Len)
	}
	return l
}

// composedBorders are the positions at which a run of inner begins or ends, or its image is at the beginning or the end of a run of outer.
func composedBorders(inner []api.Run, outer []api.Run) []int {
	l := borders(inner)
	begin := 0
	for _, r := range inner {
		for _, b := range borders(outer) {
			x := b - r.At
			if r.Back {
				x = r.At - b + 1
			}
			if 0 <= x && x <= r.Len {
				l = append(l, begin+x)
			}
		}
		begin += r.Len
	}
	return l
}

// isNormal reports whether no run can take the first integer of the next one.
func isNormal(m []api.Run) bool {
	for i, r := range m {
		if r.Len < 1 || r.Len == 1 && r.Back {
			return false
		}
		if i == 0 {
			continue
		}
		last := m[i-1]
		switch {
		case last.Len == 1 && (r.At == last.At+1 || r.At == last.At-1):
			return false
		case last.Len > 1 && !last.Back && r.At == last.At+last.Len:
			return false
		case last.Len > 1 && last.Back && r.At == last.At-last.Len:
			return false
		}
	}
	return true
}

// expectLong reports an error unless m is the normal form of the map with these images. The places are the positions at which the images may not go on as before, besides those where m says so.
func expectLong(t *testing.T, name string, m []api.Run, e api.Errno, length int, places []int, image func(x int) int) {
	t.Helper()
	if e != api.OK || lengthOf(m) != length || len(m) > most || !isNormal(m) {
		t.Fatalf("%s: %v, %d, with the length %d, not the normal form with the length %d", name, brief(m), e, lengthOf(m), length)
	}
	for _, place := range slices.Concat(places, borders(m)) {
		for _, x := range []int{place - 1, place} {
			if x >= 0 && x < length && imageOf(m, x) != image(x) {
				t.Fatalf("%s: %v maps %d to %d, not %d", name, brief(m), x, imageOf(m, x), image(x))
			}
		}
	}
}

// expect reports an error unless a function returns these runs.
func expect(t *testing.T, name string, m []api.Run, e api.Errno, want []api.Run) {
	t.Helper()
	if !slices.Equal(m, want) || e != api.OK {
		t.Fatalf("%s: %v of %d, %d, not %v of %d", name, brief(m), len(m), e, brief(want), len(want))
	}
}

// expectFull reports an error unless a function returns these runs or, if they are too many, ErrFull.
func expectFull(t *testing.T, name string, m []api.Run, e api.Errno, want []api.Run) {
	t.Helper()
	if len(want) > most {
		expectRefused(t, name, len(m), e, api.ErrFull)
		return
	}
	expect(t, name, m, e, want)
}

func expectSpans(t *testing.T, name string, l []api.Span, e api.Errno, want []api.Span) {
	t.Helper()
	if !slices.Equal(l, want) || e != api.OK {
		t.Fatalf("%s: %v, %d, not %v", name, l[:min(len(l), 8)], e, want[:min(len(want), 8)])
	}
}

// expectRefused reports an error unless a function returns the error and nothing else.
func expectRefused(t *testing.T, name string, n int, e api.Errno, want api.Errno) {
	t.Helper()
	if n != 0 || e != want {
		t.Fatalf("%s: %d, %d, not %d", name, n, e, want)
	}
}

// runs are all those in which no number is greater than these.
func runs(at int, n int) []api.Run {
	var l []api.Run
	for a := range at + 1 {
		for i := range n {
			l = append(l, up(a, i+1))
			if a-i >= 0 {
				l = append(l, down(a, i+1))
			}
		}
	}
	return l
}

// tuples are all maps of at most so many of the runs.
func tuples(most int, of []api.Run) [][]api.Run {
	l := [][]api.Run{nil}
	from := 0
	for range most {
		to := len(l)
		for _, m := range l[from:to] {
			for _, r := range of {
				l = append(l, append(slices.Clone(m), r))
			}
		}
		from = to
	}
	return l
}

// random returns numbers from 0 to n - 1 that are the same in each run of the tests.
func random() func(n int) int {
	state := uint64(13)
	return func(n int) int {
		state = state*6364136223846793005 + 1442695040888963407
		return int(state>>33) % n
	}
}

// walk is a map whose runs often go on where the one before them ends, with images below limit.
func walk(next func(n int) int, count int, longest int, limit int) []api.Run {
	var m []api.Run
	at, step := next(limit), 1
	for range count {
		r := api.Run{Back: next(2) == 0}
		switch next(8) {
		case 0:
			at = next(limit)
		case 1, 2:
			at -= step
		case 3:
		default:
			at += step
		}
		r.At = min(max(at, 0), limit-1)
		room := limit - r.At
		if r.Back {
			room = r.At + 1
		}
		r.Len = min(1+next(longest)*next(2), room)
		m = append(m, r)
		at, step = r.At+r.Len-1, 1
		if r.Back {
			at, step = r.At-r.Len+1, -1
		}
	}
	return m
}

// walks are maps of the numbers of runs that are asked for.
func walks(counts ...int) [][]api.Run {
	next := random()
	var l [][]api.Run
	for _, count := range counts {
		for range 25 {
			l = append(l, walk(next, count, 4, 6), walk(next, count, 3, 40), walk(next, count, 9, 200))
		}
	}
	return l
}

// short are maps whose images can be listed: all small ones, and others.
func short() [][]api.Run {
	return slices.Concat(tuples(2, runs(4, 3)), tuples(3, runs(3, 2)), walks(4, 7, 20, 100, 255, 256), [][]api.Run{{}, repeated(most, up(0, 1)), stairs(most, 0, 1, 1, true), stairs(most, 255, -1, 1, false), stairs(most, 0, 3, 3, false), stairs(most, 2, 3, 3, true), repeated(most, up(4, 2), down(4, 3))[:most]})
}

// long are maps with great lengths.
func long() [][]api.Run {
	return [][]api.Run{
		maps(up(0, end)), maps(down(end-1, end)), maps(up(1, end-1)), maps(down(end-2, end-1)), maps(up(0, end-1), up(end-1, 1)), maps(up(0, 1), up(1, end-1)), maps(up(0, end-1), down(end-1, 1)),
		maps(up(0, half), up(half, half)), maps(up(half, half), up(0, half)), maps(down(end-1, half), down(half-1, half)), maps(down(half-1, half), up(half, half)), maps(up(0, half), down(end-1, half)), maps(up(0, half), down(half, half)),
		stairs(most, 0, each, each, false), stairs(most, end-1, -each, each, true), stairs(most, each-1, each, each, true), stairs(most, end-each, -each, each, false), repeated(most, up(0, each)), repeated(most, down(end-1, each)), repeated(most/2, up(7, each), down(each+7, each)),
		maps(up(3, 7), down(end-1, end-20), up(end-4, 4), up(end-1, 1), down(0, 1), down(1, 2)), maps(down(end-1, 1), up(0, 1)), maps(up(end-1, 1)), maps(down(1<<33+5, 1<<33), up(6, 1<<32), up(1<<32+6, 1<<31)),
	}
}
