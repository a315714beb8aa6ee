package rect_test

import (
	"math"
	"slices"
	"testing"

	"papermill/api"
	"papermill/rect"
)

const (
	wide  = api.MaxWidth
	end   = api.MaxLength
	most  = api.MaxRects
	least = math.MinInt
	great = math.MaxInt
)

// web is the whole web.
var web = box(0, wide, 0, end)

func box(left int, right int, from int, to int) api.Rect {
	return api.Rect{Left: left, Right: right, From: from, To: to}
}

func boxes(l ...api.Rect) []api.Rect             { return l }
func brief(l []api.Rect) []api.Rect              { return l[:min(len(l), 8)] }
func repeated(n int, r api.Rect) []api.Rect      { return slices.Repeat(boxes(r), n) }
func before(r api.Rect, l []api.Rect) []api.Rect { return slices.Concat(boxes(r), l) }
func behind(l []api.Rect, r api.Rect) []api.Rect { return slices.Concat(l, boxes(r)) }

// spans are given by their ends, From and To in turn.
func spans(ends ...int) []api.Span {
	var l []api.Span
	for i := 0; i < len(ends); i += 2 {
		l = append(l, api.Span{From: ends[i], To: ends[i+1]})
	}
	return l
}

// changed is l with r at the index i.
func changed(l []api.Rect, i int, r api.Rect) []api.Rect {
	l = slices.Clone(l)
	l[i] = r
	return l
}

// reversed are the same rectangles from the last one to the first one.
func reversed(l []api.Rect) []api.Rect {
	l = slices.Clone(l)
	slices.Reverse(l)
	return l
}

// random returns numbers below n in an order without a rule, the same ones in every run.
func random() func(n int) int {
	x := uint64(1)
	return func(n int) int {
		x = x*6364136223846793005 + 1442695040888963407
		return int(x >> 13 % uint64(n))
	}
}

// grown are all rectangles with ends from 0 to n that are valid.
func grown(n int) []api.Rect {
	return slices.DeleteFunc(ranged(0, n), func(r api.Rect) bool { return r.Left > r.Right || r.From > r.To })
}

// ranged are all rectangles with ends from first to last, in any order.
func ranged(first int, last int) []api.Rect {
	var ends []int
	for x := first; x <= last; x++ {
		ends = append(ends, x)
	}
	return made(ends, ends)
}

// made are all rectangles with these ends across and along.
func made(across []int, along []int) []api.Rect {
	var l []api.Rect
	for _, left := range across {
		for _, right := range across {
			for _, from := range along {
				for _, to := range along {
					l = append(l, box(left, right, from, to))
				}
			}
		}
	}
	return l
}

// tiles are columns times rows rectangles of one size, without gaps.
func tiles(columns int, rows int, width int, length int) []api.Rect {
	var l []api.Rect
	for x := range columns {
		for y := range rows {
			l = append(l, box(x*width, (x+1)*width, y*length, (y+1)*length))
		}
	}
	return l
}

// apart are tiles of which each one loses its last millimetres across and along.
func apart(columns int, rows int, width int, length int) []api.Rect {
	l := tiles(columns, rows, width, length)
	for i := range l {
		l[i].Right--
		l[i].To--
	}
	return l
}

// nested are n rectangles, each one within the one before.
func nested(n int) []api.Rect {
	var l []api.Rect
	for i := range n {
		l = append(l, box(i, wide-i, 3*i, end-2*i))
	}
	return l
}

// stairs are n rectangles, each of which overlaps the one before at a corner.
func stairs(n int) []api.Rect {
	var l []api.Rect
	for i := range n {
		l = append(l, box(10*i, 10*i+15, 1000*i, 1000*i+1700))
	}
	return l
}

// The rectangles of these lists cover a ring with a hole: they overlap at the corners, or only touch.
func ring() []api.Rect {
	return boxes(box(0, 10, 0, 2), box(0, 10, 8, 10), box(0, 2, 0, 10), box(8, 10, 0, 10))
}

func wheel() []api.Rect {
	return boxes(box(0, 8, 0, 2), box(8, 10, 0, 8), box(2, 10, 8, 10), box(0, 2, 2, 10))
}

// corners are one point at each corner of the web.
func corners() []api.Rect {
	return boxes(box(0, 1, 0, 1), box(wide-1, wide, 0, 1), box(0, 1, end-1, end), box(wide-1, wide, end-1, end))
}

// lines are valid rectangles without points: at the rims of the web, within it, and as long as can be.
func lines() []api.Rect {
	return boxes(box(0, 0, 0, 0), box(wide, wide, end, end), box(0, 0, 0, end), box(wide, wide, 0, end), box(7, 7, 0, end), box(7, 7, 3, 90), box(0, wide, 0, 0), box(0, wide, end, end), box(0, wide, 50, 50), box(2, 9, 50, 50), box(5, 5, 5, 5))
}

// strange are other rectangles without points, which are not valid.
func strange() []api.Rect {
	return boxes(
		box(8, 7, 0, 90), box(0, 20, 9, 8), box(8, 7, 9, 8), box(wide, 0, end, 0), box(wide, 0, 0, end), box(0, wide, end, 0), box(-3, -3, 0, 5), box(0, 5, -3, -3), box(-1, -2, 4, 9), box(7, 7, 9, 1), box(9, 1, 7, 7),
		box(great, least, 0, 10), box(0, 10, great, least), box(great, least, great, least), box(least, least, least, great), box(great, great, least, great), box(least, great, least, least), box(least, great, great, great), box(least, great, great, least), box(least, great, 1, 0), box(great, least, least, great), box(1, 0, least, great), box(least, least, least, least), box(great, great, great, great),
	)
}

// full lists have exactly MaxRects rectangles.
func full() [][]api.Rect {
	return [][]api.Rect{
		repeated(most, web), repeated(most, box(3, 9, 10, 1000)), repeated(most, box(wide-1, wide, end-1, end)), repeated(most, box(0, 0, 0, 0)), repeated(most, box(4, 4, 0, end)),
		tiles(8, 8, 1, 1), tiles(8, 8, wide/8, end/8), tiles(most, 1, 100, 1<<30), tiles(1, most, wide, end/most), tiles(1, most, 1, 1), tiles(most, 1, 1, 1), tiles(4, 16, 3, 7), reversed(tiles(8, 8, 5, 6)),
		apart(8, 8, 10, 10), apart(8, 8, wide/8, end/8), apart(most, 1, 2, 2), apart(1, most, wide, end/most), changed(apart(8, 8, 10, 10), 20, web), changed(tiles(8, 8, 10, 10), 20, box(0, 0, 0, end)), changed(tiles(8, 8, 10, 10), most-1, box(69, 71, 69, 71)),
		nested(most), reversed(nested(most)), stairs(most), reversed(stairs(most)),
	}
}

// shaped are lists with one of the shapes that have names.
func shaped() [][]api.Rect {
	l := [][]api.Rect{
		nil, {}, boxes(web), boxes(web, web), lines(), corners(), before(web, corners()), behind(corners(), web), behind(lines(), web), slices.Concat(corners(), lines()), ring(), wheel(), behind(ring(), box(2, 8, 2, 8)), behind(wheel(), box(4, 4, 0, 50)), slices.Concat(ring(), wheel(), stairs(9)),
		tiles(3, 3, 2, 2), apart(3, 3, 2, 2), nested(3), stairs(3),
	}
	for _, r := range slices.Concat(lines(), corners()) {
		l = append(l, boxes(r), boxes(r, r), boxes(r, box(3, 9, 10, 80)), boxes(box(3, 9, 10, 80), r, box(3, 9, 90, 99)))
	}
	return slices.Concat(l, full())
}

// mixed are lists whose sides are taken from a few places, so that many of them are at one place, or far apart.
func mixed() [][]api.Rect {
	var l [][]api.Rect
	next := random()
	for _, count := range []int{1, 2, 3, 4, 5, 8, 13, 30, most - 1, most} {
		for _, width := range []int{3, 12, 40, wide} {
			for _, length := range []int{3, 12, 1000, end} {
				l = append(l, scattered(next, count, width, length), scattered(next, count, width, length))
			}
		}
	}
	return l
}

// scattered are count rectangles in one of this width and length; the more there are, the smaller most of them are.
func scattered(next func(n int) int, count int, width int, length int) []api.Rect {
	var l []api.Rect
	for range count {
		x, y := next(width+1), next(length+1)
		l = append(l, box(x, x+next(min(width-x, 1+3*width/count)+1), y, y+next(min(length-y, 1+3*length/count)+1)))
	}
	return l
}

// pairs are all pairs of valid rectangles with ends from 0 to 3.
func pairs() [][]api.Rect {
	var l [][]api.Rect
	small := grown(3)
	for _, a := range small {
		for _, b := range small {
			l = append(l, boxes(a, b))
		}
	}
	return l
}

// triples are all lists of three valid rectangles with ends from 0 to 2.
func triples() [][]api.Rect {
	var l [][]api.Rect
	small := grown(2)
	for _, a := range small {
		for _, b := range small {
			for _, c := range small {
				l = append(l, boxes(a, b, c))
			}
		}
	}
	return l
}

// large lists cannot be gone through point by point.
func large() [][]api.Rect { return slices.Concat(shaped(), mixed()) }

func has(r api.Rect, x int, y int) bool {
	return r.Left <= x && x < r.Right && r.From <= y && y < r.To
}

// holders returns how many of the rectangles have a point.
func holders(l []api.Rect, x int, y int) int {
	n := 0
	for _, r := range l {
		if has(r, x, y) {
			n++
		}
	}
	return n
}

// counted is the number of points with f among those with both positions from 0 to 3.
func counted(f func(x int, y int) bool) int {
	n := 0
	for x := range 4 {
		for y := range 4 {
			if f(x, y) {
				n++
			}
		}
	}
	return n
}

// ends are the places at which the rectangles begin or end, across and along.
func ends(l []api.Rect) ([]int, []int) {
	across, along := []int{0}, []int{0}
	for _, r := range l {
		across = append(across, r.Left, r.Right)
		along = append(along, r.From, r.To)
	}
	slices.Sort(across)
	slices.Sort(along)
	return slices.Compact(across), slices.Compact(along)
}

// area is the number of points with f, which is the same for all points between neighbouring ends of the rectangles.
func area(l []api.Rect, f func(x int, y int) bool) int {
	across, along := ends(l)
	n := 0
	for i, right := range across[1:] {
		for k, to := range along[1:] {
			if x, y := across[i], along[k]; f(x, y) {
				n += (right - x) * (to - y)
			}
		}
	}
	return n
}

// normal is the normal form of the positions with f, which is the same for all positions between neighbouring ends.
func normal(ends []int, f func(x int) bool) []api.Span {
	var l []api.Span
	for i, to := range ends[1:] {
		from := ends[i]
		if !f(from) {
			continue
		}
		if n := len(l); n > 0 && l[n-1].To == from {
			l[n-1].To = to
		} else {
			l = append(l, api.Span{From: from, To: to})
		}
	}
	return l
}

// shadowAcross and shadowAlong are what Across and Along must return.
func shadowAcross(l []api.Rect) []api.Span {
	across, along := ends(l)
	return normal(across, func(x int) bool {
		return slices.ContainsFunc(along, func(y int) bool { return holders(l, x, y) > 0 })
	})
}

func shadowAlong(l []api.Rect) []api.Span {
	across, along := ends(l)
	return normal(along, func(y int) bool {
		return slices.ContainsFunc(across, func(x int) bool { return holders(l, x, y) > 0 })
	})
}

// isIn reports whether a position is in one of the spans.
func isIn(l []api.Span, x int) bool {
	return slices.ContainsFunc(l, func(s api.Span) bool { return s.From <= x && x < s.To })
}

// valid returns the result of a function, and fails if it returns an error.
func valid[T any](t *testing.T, l []api.Rect, result T, e api.Errno) T {
	t.Helper()
	if e != api.OK {
		t.Fatalf("%v of %d: %d", brief(l), len(l), e)
	}
	return result
}

func areaOf(t *testing.T, r api.Rect) int {
	t.Helper()
	n, e := rect.Area(r)
	return valid(t, boxes(r), n, e)
}

func coverOf(t *testing.T, l []api.Rect) int {
	t.Helper()
	n, e := rect.Cover(l)
	return valid(t, l, n, e)
}

func restOf(t *testing.T, r api.Rect, l []api.Rect) int {
	t.Helper()
	n, e := rect.Rest(r, l)
	return valid(t, before(r, l), n, e)
}

func clipOf(t *testing.T, l []api.Rect, r api.Rect) []api.Rect {
	t.Helper()
	c, e := rect.Clip(l, r)
	return valid(t, behind(l, r), c, e)
}

func expectCommon(t *testing.T, a api.Rect, b api.Rect, want api.Rect, is bool) {
	t.Helper()
	if c, ok := rect.Common(a, b); c != want || ok != is {
		t.Fatalf("Common(%v, %v) = %v, %t, not %v, %t", a, b, c, ok, want, is)
	}
}

func expectWithin(t *testing.T, a api.Rect, b api.Rect, want bool) {
	t.Helper()
	if is := rect.Within(a, b); is != want {
		t.Fatalf("Within(%v, %v) = %t", a, b, is)
	}
}

func expectCover(t *testing.T, l []api.Rect, want int) {
	t.Helper()
	if n, e := rect.Cover(l); n != want || e != api.OK {
		t.Fatalf("Cover(%v of %d) = %d, %d, not %d", brief(l), len(l), n, e, want)
	}
}

func expectRest(t *testing.T, r api.Rect, l []api.Rect, want int) {
	t.Helper()
	if n, e := rect.Rest(r, l); n != want || e != api.OK {
		t.Fatalf("Rest(%v, %v of %d) = %d, %d, not %d", r, brief(l), len(l), n, e, want)
	}
}

func expectClip(t *testing.T, l []api.Rect, r api.Rect, want []api.Rect) {
	t.Helper()
	if c, e := rect.Clip(l, r); !slices.Equal(c, want) || e != api.OK {
		t.Fatalf("Clip(%v of %d, %v) = %v of %d, %d, not %v of %d", brief(l), len(l), r, brief(c), len(c), e, brief(want), len(want))
	}
}

func expectSides(t *testing.T, l []api.Rect, along []api.Span, across []api.Span) {
	t.Helper()
	if s, e := rect.Along(l); !slices.Equal(s, along) || e != api.OK {
		t.Fatalf("Along(%v of %d) = %v, %d, not %v", brief(l), len(l), s, e, along)
	}
	if s, e := rect.Across(l); !slices.Equal(s, across) || e != api.OK {
		t.Fatalf("Across(%v of %d) = %v, %d, not %v", brief(l), len(l), s, e, across)
	}
}

func expectDisjoint(t *testing.T, l []api.Rect, want bool) {
	t.Helper()
	if is := rect.Disjoint(l); is != want {
		t.Fatalf("Disjoint(%v of %d) = %t", brief(l), len(l), is)
	}
}
