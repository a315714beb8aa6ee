package rect_test

import (
	"slices"
	"testing"

	"papermill/api"
	"papermill/rect"
)

// P15.1

// isValid is the definition: these numbers ascend, or are equal.
func isValid(r api.Rect) bool {
	return slices.IsSorted([]int{0, r.Left, r.Right, wide}) && slices.IsSorted([]int{0, r.From, r.To, end})
}

// below are numbers below 0.
func below() []int { return []int{-1, -2, -wide, -end, -1 << 62, least + 1, least} }

// above are numbers above a limit.
func above(limit int) []int { return []int{limit + 1, limit + 2, 2 * limit, 1 << 62, great - 1, great} }

// invalid are rectangles with each fault alone, by 1 and by far, and with several faults at once.
func invalid() []api.Rect {
	l := slices.Concat(strange(), boxes(
		box(-1, 5, 0, 9), box(4, 3, 0, 9), box(0, wide+1, 0, 9), box(0, 5, -1, 9), box(0, 5, 4, 3), box(0, 5, 0, end+1),
		box(-1, wide+1, 0, 9), box(0, 5, -1, end+1), box(-1, wide+1, -1, end+1), box(wide+1, wide, 0, 9), box(0, 5, end+1, end), box(0, -1, 0, 9), box(0, 5, 0, -1), box(0, -1, 0, -1), box(wide+1, wide+1, end+1, end+1), box(-1, -1, -1, -1), box(0, end, 0, wide), box(least, great, least, great),
	))
	for _, r := range boxes(web, box(3, 9, 10, 80), box(5, 5, 7, 7), box(0, 0, 0, 0), box(wide, wide, end, end), box(0, wide, 6, 6)) {
		for _, n := range below() {
			l = append(l, box(n, r.Right, r.From, r.To), box(r.Left, n, r.From, r.To), box(n, n, r.From, r.To), box(r.Left, r.Right, n, r.To), box(r.Left, r.Right, r.From, n), box(r.Left, r.Right, n, n), box(n, n, n, n))
		}
		for _, n := range above(wide) {
			l = append(l, box(n, r.Right, r.From, r.To), box(r.Left, n, r.From, r.To), box(n, n, r.From, r.To))
		}
		for _, n := range above(end) {
			l = append(l, box(r.Left, r.Right, n, r.To), box(r.Left, r.Right, r.From, n), box(r.Left, r.Right, n, n), box(n, n, n, n))
		}
		for _, n := range []int{1, 2, 1000, 1 << 62} {
			l = append(l, box(r.Right+n, r.Right, r.From, r.To), box(r.Left, r.Left-n, r.From, r.To), box(r.Left, r.Right, r.To+n, r.To), box(r.Left, r.Right, r.From, r.From-n), box(r.Right+n, r.Right, r.To+n, r.To))
		}
	}
	return l
}

func TestCheckAccepts(t *testing.T) {
	l := slices.Concat(grown(4), boxes(web, box(0, wide, 0, 1), box(0, 1, 0, end), box(wide-1, wide, end-1, end), box(3, 9, 10, 80), box(0, wide-1, 0, end-1), box(1, wide, 1, end)))
	for _, r := range slices.Concat(l, slices.Concat(large()...)) {
		if e := rect.Check(r); e != api.OK {
			t.Fatalf("Check(%v) = %d", r, e)
		}
	}
}

func TestCheckRefuses(t *testing.T) {
	for _, r := range invalid() {
		if e := rect.Check(r); e != api.ErrRange {
			t.Fatalf("Check(%v) = %d", r, e)
		}
	}
}

func TestCheckOfAllNumbersNearTheLimits(t *testing.T) {
	near := func(limit int) []int {
		return []int{least, least + 1, -1, 0, 1, limit/2 - 1, limit / 2, limit - 1, limit, limit + 1, great}
	}
	for _, r := range made(near(wide), near(end)) {
		if e := rect.Check(r); (e == api.OK) != isValid(r) || e != api.OK && e != api.ErrRange {
			t.Fatalf("Check(%v) = %d", r, e)
		}
	}
}

// refusal is a list with its error.
type refusal struct {
	l []api.Rect
	e api.Errno
}

// tooMany are lists that have no other error, and lists with rectangles that are not valid besides.
func tooMany() []refusal {
	var l []refusal
	for _, n := range []int{most + 1, most + 2, 2*most - 1, 2 * most, 1000, 65536, 65537} {
		for _, r := range boxes(box(0, 0, 0, 0), web, box(3, 9, 10, 80), box(-1, 5, 0, 9), box(0, 5, 0, end+1), box(least, great, least, great), box(great, least, great, least)) {
			l = append(l, refusal{repeated(n, r), api.ErrFull})
		}
		l = append(l, refusal{tiles(1, n, 7, 9), api.ErrFull})
	}
	over := tiles(1, most+1, 7, 9)
	for _, r := range invalid() {
		for _, i := range []int{0, most / 2, most} {
			l = append(l, refusal{changed(over, i, r), api.ErrFull})
		}
	}
	return l
}

// outOfRange are lists with a rectangle that is not valid at the first, a middle and the last place, and lists of such ones only.
func outOfRange() []refusal {
	var l []refusal
	for _, others := range [][]api.Rect{tiles(1, 1, 3, 4), tiles(1, 2, 3, 4), tiles(1, 3, 3, 4), tiles(5, 1, 3, 4), lines(), tiles(8, 8, 1, 1), repeated(most, web), repeated(most, box(0, 0, 0, 0))} {
		for _, r := range invalid() {
			for _, i := range []int{0, len(others) / 2, len(others) - 1} {
				l = append(l, refusal{changed(others, i, r), api.ErrRange})
			}
		}
	}
	for _, r := range invalid() {
		l = append(l, refusal{boxes(r), api.ErrRange}, refusal{repeated(2, r), api.ErrRange}, refusal{repeated(most, r), api.ErrRange})
	}
	return l
}

func refusals() []refusal { return slices.Concat(tooMany(), outOfRange()) }

// caller is a function that is given a list; f returns how many of its other results are not zero values.
type caller struct {
	name string
	f    func(l []api.Rect) (int, api.Errno)
}

func number(n int, e api.Errno) (int, api.Errno) {
	if n != 0 {
		return 1, e
	}
	return 0, e
}

func elements[T any](l []T, e api.Errno) (int, api.Errno) { return len(l), e }

// callers have valid rectangles besides the list.
func callers() []caller {
	l := []caller{
		{"Cover", func(l []api.Rect) (int, api.Errno) { return number(rect.Cover(l)) }},
		{"Along", func(l []api.Rect) (int, api.Errno) { return elements(rect.Along(l)) }},
		{"Across", func(l []api.Rect) (int, api.Errno) { return elements(rect.Across(l)) }},
	}
	for _, r := range boxes(web, box(0, 3, 0, 4), box(0, 0, 0, 0), box(7, 7, 0, end), box(wide-1, wide, end-1, end)) {
		l = append(l,
			caller{"Rest", func(l []api.Rect) (int, api.Errno) { return number(rect.Rest(r, l)) }},
			caller{"Clip", func(l []api.Rect) (int, api.Errno) { return elements(rect.Clip(l, r)) }},
		)
	}
	return l
}

// expectRefused fails unless a function returns the error and nothing else.
func expectRefused(t *testing.T, name string, l []api.Rect, n int, e api.Errno, want api.Errno) {
	t.Helper()
	if n != 0 || e != want {
		t.Fatalf("%s of %v of %d returns %d other results and %d, not %d", name, brief(l), len(l), n, e, want)
	}
}

func TestEveryFunctionReturnsTheErrorOfItsList(t *testing.T) {
	for _, c := range callers() {
		for _, r := range refusals() {
			n, e := c.f(r.l)
			expectRefused(t, c.name, r.l, n, e, r.e)
		}
	}
}

func TestEveryFunctionAcceptsValidLists(t *testing.T) {
	for _, c := range callers() {
		for _, l := range large() {
			if _, e := c.f(l); e != api.OK {
				t.Fatalf("%s of %v of %d returns %d", c.name, brief(l), len(l), e)
			}
		}
	}
}

// The error of the single rectangle comes before those of the list.
func TestEveryFunctionReturnsTheErrorOfItsRectangle(t *testing.T) {
	lists := [][]api.Rect{nil, boxes(web), boxes(box(0, 0, 0, 0)), lines(), tiles(8, 8, 1, 1), repeated(most+1, web), repeated(most+1, box(0, 0, 0, 0)), repeated(65537, box(3, 9, 10, 80)), repeated(most+1, box(-1, 5, 0, 9)), boxes(box(0, 5, 0, end+1)), boxes(web, box(4, 3, 0, 9)), changed(tiles(8, 8, 1, 1), most-1, box(0, 5, 4, 3)), strange()}
	for _, r := range invalid() {
		n, e := number(rect.Area(r))
		expectRefused(t, "Area", boxes(r), n, e, api.ErrRange)
		for _, l := range lists {
			n, e := number(rect.Rest(r, l))
			expectRefused(t, "Rest of an invalid rectangle", boxes(r), n, e, api.ErrRange)
			n, e = elements(rect.Clip(l, r))
			expectRefused(t, "Clip to an invalid rectangle", boxes(r), n, e, api.ErrRange)
		}
	}
}

// P15.2

func TestAreaExamples(t *testing.T) {
	for _, c := range []struct {
		r api.Rect
		n int
	}{
		{box(0, 10, 0, 100), 1000}, {box(5, 10, 50, 80), 150}, {box(5, 20, 50, 80), 450}, {box(3, 9, 10, 80), 420}, {box(7, 8, 90, 91), 1}, {box(7, 8, 90, 95), 5}, {box(7, 12, 90, 91), 5},
		{web, 206158430208000}, {box(0, wide, 0, 1), wide}, {box(0, 1, 0, end), end}, {box(0, wide, 1, end), 206158430196000}, {box(1, wide, 0, end), 206141250338816}, {box(0, wide-1, 0, end-1), 206141250326817}, {box(1, wide, 3, end), 206141250302819},
		{box(0, 0, 0, 0), 0}, {box(7, 7, 0, end), 0}, {box(0, wide, 5, 5), 0}, {box(wide, wide, end, end), 0}, {box(4, 4, 9, 9), 0},
	} {
		if n, e := rect.Area(c.r); n != c.n || e != api.OK {
			t.Errorf("Area(%v) = %d, %d, not %d", c.r, n, e, c.n)
		}
	}
}

func TestAreaOfCorners(t *testing.T) {
	for _, r := range corners() {
		if n := areaOf(t, r); n != 1 {
			t.Errorf("Area(%v) = %d", r, n)
		}
	}
}

func TestAreaOfRectanglesWithoutPoints(t *testing.T) {
	for _, r := range lines() {
		if n := areaOf(t, r); n != 0 {
			t.Errorf("Area(%v) = %d", r, n)
		}
	}
}

func TestAreaOfSmallRectangles(t *testing.T) {
	for _, r := range grown(4) {
		if n := areaOf(t, r); n != counted(func(x int, y int) bool { return has(r, x, y) }) {
			t.Fatalf("Area(%v) = %d", r, n)
		}
	}
}

// P15.3

// common is the definition: the greater Left and From, and the smaller Right and To.
func common(a api.Rect, b api.Rect) (api.Rect, bool) {
	c := a
	if b.Left > c.Left {
		c.Left = b.Left
	}
	if b.Right < c.Right {
		c.Right = b.Right
	}
	if b.From > c.From {
		c.From = b.From
	}
	if b.To < c.To {
		c.To = b.To
	}
	if c.Left >= c.Right || c.From >= c.To {
		return api.Rect{}, false
	}
	return c, true
}

func TestCommonExamples(t *testing.T) {
	a, everything := box(0, 10, 0, 100), box(least, great, least, great)
	none := api.Rect{}
	for _, c := range []struct {
		name    string
		a, b, c api.Rect
		ok      bool
	}{
		{"the example", a, box(5, 20, 50, 80), box(5, 10, 50, 80), true}, {"equal", a, a, a, true}, {"inside", a, box(2, 3, 4, 9), box(2, 3, 4, 9), true}, {"inside at a corner", a, box(0, 1, 99, 100), box(0, 1, 99, 100), true}, {"a cross", box(4, 6, 0, 10), box(0, 10, 4, 6), box(4, 6, 4, 6), true}, {"one column in common", a, box(9, 30, 0, 100), box(9, 10, 0, 100), true}, {"one row in common", a, box(0, 10, 99, 300), box(0, 10, 99, 100), true}, {"one point in common", a, box(9, 30, 99, 300), box(9, 10, 99, 100), true}, {"the same side", box(0, 5, 0, 5), box(0, 9, 3, 5), box(0, 5, 3, 5), true},
		{"at the right side", a, box(10, 20, 0, 100), none, false}, {"behind the end", a, box(0, 10, 100, 200), none, false}, {"at a corner", a, box(10, 20, 100, 200), none, false}, {"at the other corner", box(10, 20, 0, 100), box(0, 10, 100, 200), none, false}, {"apart across", a, box(11, 20, 0, 100), none, false}, {"apart along", a, box(0, 10, 101, 200), none, false}, {"apart across and along", a, box(50, 60, 500, 600), none, false},
		{"a line inside", a, box(3, 3, 20, 80), none, false}, {"a line across inside", a, box(3, 7, 20, 20), none, false}, {"a place inside", a, box(3, 3, 20, 20), none, false}, {"a line at the rim", a, box(10, 10, 0, 100), none, false}, {"a line at the left rim", a, box(0, 0, 0, 100), none, false}, {"a line outside", a, box(50, 50, 0, 100), none, false}, {"equal lines", box(3, 3, 0, 100), box(3, 3, 0, 100), none, false}, {"two zero values", none, none, none, false}, {"the zero value", a, none, none, false},
		{"Left above Right", a, box(9, 8, 0, 100), none, false}, {"From above To", a, box(0, 10, 9, 8), none, false}, {"both above", a, box(9, 8, 9, 8), none, false}, {"Left far above Right", a, box(great, least, 0, 100), none, false}, {"From far above To", a, box(0, 10, great, least), none, false}, {"both far above", everything, box(great, least, great, least), none, false}, {"twice Left above Right", box(9, 1, 0, 5), box(9, 1, 0, 5), none, false},
		{"a wider one", a, box(-5, 50, 99, 1000), box(0, 10, 99, 100), true}, {"everything", a, everything, a, true}, {"everything twice", everything, everything, everything, true}, {"the whole web", web, everything, web, true}, {"below 0", box(-9, -3, -50, -1), box(-5, 4, -60, -20), box(-5, -3, -50, -20), true}, {"the first point of all", everything, box(least, least+1, least, least+1), box(least, least+1, least, least+1), true}, {"the last point of all", everything, box(great-1, great, great-1, great), box(great-1, great, great-1, great), true}, {"halves of everything", box(least, 0, least, great), box(0, great, least, great), none, false}, {"halves with one column in common", box(least, 1, least, great), box(0, great, least, great), box(0, 1, least, great), true}, {"around the zero value", everything, none, none, false}, {"the point at 0", box(0, 1, 0, 1), everything, box(0, 1, 0, 1), true},
	} {
		if r, ok := rect.Common(c.a, c.b); r != c.c || ok != c.ok {
			t.Errorf("%s: Common = %v, %t, not %v, %t", c.name, r, ok, c.c, c.ok)
		}
		if r, ok := rect.Common(c.b, c.a); r != c.c || ok != c.ok {
			t.Errorf("%s, exchanged: Common = %v, %t, not %v, %t", c.name, r, ok, c.c, c.ok)
		}
	}
}

// The ends are in any order here.
func TestCommonOfSmallRectangles(t *testing.T) {
	small := ranged(-1, 2)
	for _, a := range small {
		for _, b := range small {
			c, is := common(a, b)
			expectCommon(t, a, b, c, is)
		}
	}
}

func TestCommonOfExtremeRectangles(t *testing.T) {
	places := []int{least, least + 1, 0, great - 1, great}
	extreme := made(places, places)
	for _, a := range extreme {
		for _, b := range extreme {
			c, is := common(a, b)
			expectCommon(t, a, b, c, is)
		}
	}
}

func TestCommonOfRectanglesWithoutPoints(t *testing.T) {
	empty := slices.Concat(lines(), strange())
	for _, a := range empty {
		for _, b := range slices.Concat(empty, corners(), boxes(web, box(0, 10, 0, 100), box(least, great, least, great), box(-5, 9, -7, 3))) {
			expectCommon(t, a, b, api.Rect{}, false)
			expectCommon(t, b, a, api.Rect{}, false)
		}
	}
}

func TestCommonOfLargeRectangles(t *testing.T) {
	for _, l := range large() {
		for i, a := range l {
			for _, b := range l[i:] {
				c, is := common(a, b)
				expectCommon(t, a, b, c, is)
				expectCommon(t, b, a, c, is)
			}
		}
	}
}

// P15.4

func TestWithinExamples(t *testing.T) {
	b, everything := box(0, 10, 0, 100), box(least, great, least, great)
	for _, c := range []struct {
		name string
		a, b api.Rect
		is   bool
	}{
		{"the example", box(7, 7, 0, 5), box(0, 1, 0, 1), true}, {"equal", b, b, true}, {"inside", box(1, 2, 1, 2), b, true}, {"around", b, box(1, 2, 1, 2), false}, {"at all sides but one", box(0, 9, 0, 100), b, true}, {"inside at a corner", box(9, 10, 99, 100), b, true},
		{"too far on the left", box(-1, 10, 0, 100), b, false}, {"too far on the right", box(0, 11, 0, 100), b, false}, {"too early", box(0, 10, -1, 100), b, false}, {"too late", box(0, 10, 0, 101), b, false}, {"all but one column", b, box(1, 10, 0, 100), false}, {"all but the last column", b, box(0, 9, 0, 100), false}, {"all but the first row", b, box(0, 10, 1, 100), false}, {"all but the last row", b, box(0, 10, 0, 99), false},
		{"beside it", box(10, 12, 0, 100), b, false}, {"behind it", box(0, 10, 100, 101), b, false}, {"at a corner", box(10, 11, 100, 101), b, false}, {"apart", box(50, 60, 500, 600), b, false}, {"a cross", box(4, 6, -5, 200), b, false}, {"overlapping", box(5, 20, 50, 80), b, false},
		{"a line inside", box(3, 3, 20, 80), b, true}, {"a line at the rim", box(10, 10, 0, 100), b, true}, {"a line outside", box(50, 50, 500, 600), b, true}, {"a line that is longer", box(3, 3, -50, 800), b, true}, {"Left above Right", box(9, 3, 0, 500), box(0, 0, 0, 0), true}, {"From above To", box(0, 500, 9, 3), b, true}, {"as far above as can be", box(great, least, great, least), b, true}, {"everything across, nothing along", box(least, great, 5, 5), b, true}, {"nothing across, everything along", box(5, 4, least, great), b, true},
		{"a line in a line", box(3, 3, 0, 9), box(4, 4, 0, 9), true}, {"a zero value in a zero value", api.Rect{}, api.Rect{}, true}, {"a zero value", api.Rect{}, b, true}, {"in a zero value", b, api.Rect{}, false}, {"in a line", box(3, 4, 0, 9), box(3, 3, 0, 9), false}, {"a point in a place", box(3, 4, 5, 6), box(3, 3, 5, 5), false}, {"in Left above Right", b, box(10, 0, 0, 100), false}, {"in From above To", b, box(0, 10, 100, 0), false}, {"in both above", b, box(10, 0, 100, 0), false}, {"in both far above", b, box(great, least, great, least), false},
		{"in everything", b, everything, true}, {"everything", everything, b, false}, {"everything in everything", everything, everything, true}, {"all but the first column of everything", everything, box(least+1, great, least, great), false}, {"all but the last row of everything", everything, box(least, great, least, great-1), false}, {"the whole web", web, web, true}, {"a corner of the web", box(wide-1, wide, end-1, end), web, true}, {"behind the web", box(wide-1, wide, end, end+1), web, false}, {"the point at 0 in nothing", box(0, 1, 0, 1), api.Rect{}, false},
	} {
		if is := rect.Within(c.a, c.b); is != c.is {
			t.Errorf("%s: Within = %t", c.name, is)
		}
	}
}

func TestWithinOfSmallRectangles(t *testing.T) {
	small := ranged(-1, 2)
	for _, a := range small {
		for _, b := range small {
			is := true
			for x := -1; x < 2; x++ {
				for y := -1; y < 2; y++ {
					is = is && (!has(a, x, y) || has(b, x, y))
				}
			}
			expectWithin(t, a, b, is)
		}
	}
}

// within is true exactly if the first and the last point, if there are any, are inside.
func within(a api.Rect, b api.Rect) bool {
	return a.Left >= a.Right || a.From >= a.To || has(b, a.Left, a.From) && has(b, a.Right-1, a.To-1)
}

func TestWithinOfExtremeRectangles(t *testing.T) {
	places := []int{least, least + 1, 0, great - 1, great}
	extreme := made(places, places)
	for _, a := range extreme {
		for _, b := range extreme {
			expectWithin(t, a, b, within(a, b))
		}
	}
}

func TestWithinOfRectanglesWithoutPoints(t *testing.T) {
	empty := slices.Concat(lines(), strange())
	for _, a := range empty {
		for _, b := range slices.Concat(empty, corners(), boxes(web, box(0, 10, 0, 100), box(least, great, least, great))) {
			expectWithin(t, a, b, true)
		}
		for _, b := range slices.Concat(corners(), boxes(web, box(0, 10, 0, 100), box(least, great, least, great), box(-5, -4, -7, -6))) {
			expectWithin(t, b, a, false)
		}
	}
}

func TestWithinOfLargeRectangles(t *testing.T) {
	for _, l := range large() {
		for _, a := range l {
			for _, b := range l {
				expectWithin(t, a, b, within(a, b))
			}
		}
	}
}

// P15.5

func TestCoverExamples(t *testing.T) {
	a, all := box(0, 10, 0, 100), wide*end
	for _, c := range []struct {
		name string
		l    []api.Rect
		n    int
	}{
		{"the example", boxes(a, box(5, 20, 50, 80)), 1300}, {"no list", nil, 0}, {"an empty list", boxes(), 0}, {"one", boxes(a), 1000}, {"equal", boxes(a, a, a), 1000}, {"apart", boxes(a, box(50, 60, 500, 700)), 3000}, {"apart across only", boxes(a, box(50, 60, 20, 30)), 1100}, {"apart along only", boxes(a, box(2, 5, 500, 600)), 1300},
		{"side by side", boxes(a, box(10, 20, 0, 100)), 2000}, {"end to end", boxes(a, box(0, 10, 100, 150)), 1500}, {"at a corner", boxes(a, box(10, 20, 100, 200)), 2000}, {"at the other corner", boxes(box(10, 20, 0, 100), box(0, 10, 100, 200)), 2000}, {"inside", boxes(a, box(3, 5, 20, 90)), 1000}, {"around", boxes(box(3, 5, 20, 90), a), 1000}, {"a cross", boxes(box(4, 6, 0, 10), box(0, 10, 4, 6)), 36}, {"one point in common", boxes(a, box(9, 19, 99, 199)), 1999}, {"three in a row", boxes(box(0, 3, 0, 3), box(1, 2, 1, 2), box(2, 5, 2, 5)), 17}, {"one point in all three", boxes(box(0, 3, 0, 3), box(2, 5, 2, 5), box(2, 5, 0, 3)), 21},
		{"a ring that overlaps itself", ring(), 64}, {"a ring without overlaps", wheel(), 64}, {"a ring and its hole", behind(ring(), box(2, 8, 2, 8)), 100}, {"a ring and half its hole", behind(ring(), box(2, 5, 2, 8)), 82}, {"two rings", slices.Concat(ring(), wheel()), 64},
		{"without points", lines(), 0}, {"without points and with", behind(lines(), a), 1000}, {"a line behind", boxes(a, box(3, 3, 500, 600)), 1000}, {"a line before", boxes(box(500, 600, 50, 50), a), 1000}, {"a place in a hole", behind(ring(), box(5, 5, 5, 5)), 64},
		{"the whole web", boxes(web), all}, {"the whole web and parts of it", slices.Concat(boxes(web), corners(), ring()), all}, {"one point at each corner", corners(), 4}, {"both halves along", boxes(box(0, wide, 0, end/2), box(0, wide, end/2, end)), all}, {"both halves across", boxes(box(0, wide/2, 0, end), box(wide/2, wide, 0, end)), all}, {"all but one point", boxes(box(0, wide-1, 0, end), box(0, wide, 0, end-1)), all - 1}, {"all but a row", boxes(box(0, wide, 0, 7), box(0, wide, 8, end)), all - wide}, {"all but a column", boxes(box(0, 7, 0, end), box(8, wide, 0, end)), all - end}, {"a cross over the web", boxes(box(5, 6, 0, end), box(0, wide, 9, 10)), wide + end - 1},
		{"64 equal ones", repeated(most, a), 1000}, {"64 whole webs", repeated(most, web), all}, {"64 zero values", repeated(most, api.Rect{}), 0}, {"64 tiles", tiles(8, 8, 5, 6), 40 * 48}, {"64 tiles over the web", tiles(8, 8, wide/8, end/8), all}, {"64 strips over the web", tiles(1, most, wide, end/most), all}, {"64 columns", tiles(most, 1, 3, 9), most * 27}, {"64 apart", apart(8, 8, 10, 10), most * 81}, {"64 points", apart(8, 8, 2, 2), most}, {"64 within one another", nested(most), all}, {"64 steps", stairs(most), most*15*1700 - (most-1)*5*700},
	} {
		for _, l := range [][]api.Rect{c.l, reversed(c.l)} {
			if n, e := rect.Cover(l); n != c.n || e != api.OK {
				t.Errorf("%s: Cover = %d, %d, not %d", c.name, n, e, c.n)
			}
		}
	}
}

func TestCoverOfSmallRectangles(t *testing.T) {
	for _, l := range slices.Concat(pairs(), triples()) {
		expectCover(t, l, counted(func(x int, y int) bool { return holders(l, x, y) > 0 }))
	}
}

func TestCoverOfLargeRectangles(t *testing.T) {
	for _, l := range large() {
		expectCover(t, l, area(l, func(x int, y int) bool { return holders(l, x, y) > 0 }))
	}
}

// P15.6

func TestRestExamples(t *testing.T) {
	r, all := box(0, 10, 0, 100), wide*end
	for _, c := range []struct {
		name string
		r    api.Rect
		l    []api.Rect
		n    int
	}{
		{"the example", r, boxes(box(5, 20, 50, 80)), 850}, {"no list", r, nil, 1000}, {"an empty list", r, boxes(), 1000}, {"covered by itself", r, boxes(r), 0}, {"covered by a larger one", r, boxes(box(0, 20, 0, 200)), 0}, {"covered by two halves", r, boxes(box(0, 5, 0, 100), box(5, 10, 0, 100)), 0}, {"covered by two that overlap", r, boxes(box(0, 7, 0, 100), box(3, 12, 0, 110)), 0}, {"covered but for a column", r, boxes(box(0, 5, 0, 100), box(6, 10, 0, 100)), 100}, {"covered but for a row", r, boxes(box(0, 10, 0, 50), box(0, 10, 51, 100)), 10}, {"covered but for a point", r, boxes(box(0, 9, 0, 100), box(0, 10, 0, 99)), 1}, {"one point of it", r, boxes(box(4, 5, 60, 61)), 999}, {"twice one point of it", r, boxes(box(4, 5, 60, 61), box(4, 5, 60, 61)), 999}, {"three parts", r, boxes(box(5, 20, 50, 80), box(0, 2, 0, 10), box(9, 10, 70, 90)), 820},
		{"beside it", r, boxes(box(10, 20, 0, 100)), 1000}, {"behind it", r, boxes(box(0, 10, 100, 200)), 1000}, {"at a corner", r, boxes(box(10, 20, 100, 200)), 1000}, {"apart", r, boxes(box(50, 60, 500, 600)), 1000}, {"apart across only", r, boxes(box(50, 60, 0, 100)), 1000}, {"apart along only", r, boxes(box(0, 10, 500, 600)), 1000}, {"all around it", box(2, 8, 2, 8), ring(), 36}, {"all around it, and a point of it", box(2, 8, 2, 8), behind(ring(), box(5, 6, 5, 6)), 35}, {"a ring and its hole", box(0, 10, 0, 10), ring(), 36}, {"a ring around another one", box(0, 10, 0, 10), slices.Concat(wheel(), boxes(box(3, 7, 3, 4), box(3, 7, 6, 7), box(3, 4, 3, 7), box(6, 7, 3, 7))), 24},
		{"lines in it", r, lines(), 1000}, {"without points", box(3, 3, 0, 100), boxes(r), 0}, {"without points, outside", box(50, 60, 7, 7), boxes(r), 0}, {"the zero value", api.Rect{}, boxes(web), 0}, {"without points, and no list", box(3, 3, 0, 100), nil, 0},
		{"the whole web", web, nil, all}, {"the whole web without itself", web, boxes(web), 0}, {"the whole web without its corners", web, corners(), all - 4}, {"the whole web without its halves", web, boxes(box(0, wide, 0, end/2), box(0, wide, end/2, end)), 0}, {"a corner of the web", box(wide-1, wide, end-1, end), boxes(box(0, wide-1, 0, end), box(0, wide, 0, end-1)), 1}, {"a corner of the web, covered", box(wide-1, wide, end-1, end), corners(), 0},
		{"64 equal ones", r, repeated(most, box(5, 20, 50, 80)), 850}, {"64 that cover it", r, repeated(most, web), 0}, {"64 tiles that cover it", box(0, 40, 0, 48), tiles(8, 8, 5, 6), 0}, {"64 tiles, and more", box(0, 41, 0, 49), tiles(8, 8, 5, 6), 41*49 - 40*48}, {"a part of 64 tiles", box(7, 23, 11, 19), tiles(8, 8, 5, 6), 0}, {"gaps between 64", box(0, 80, 0, 80), apart(8, 8, 10, 10), 6400 - most*81}, {"one gap between 64", box(5, 15, 19, 20), apart(8, 8, 10, 10), 10}, {"the web without 64 tiles", web, tiles(8, 8, wide/8, end/8), 0}, {"the web without 64 strips with gaps", web, apart(1, most, wide, end/most), all - (wide-1)*(end-most)},
	} {
		for _, l := range [][]api.Rect{c.l, reversed(c.l)} {
			if n, e := rect.Rest(c.r, l); n != c.n || e != api.OK {
				t.Errorf("%s: Rest = %d, %d, not %d", c.name, n, e, c.n)
			}
		}
	}
}

func TestRestOfSmallRectangles(t *testing.T) {
	for _, l := range slices.Concat(pairs(), triples()) {
		r, others := l[0], l[1:]
		expectRest(t, r, others, counted(func(x int, y int) bool { return has(r, x, y) && holders(others, x, y) == 0 }))
	}
}

// singles are rectangles that are compared with a list: its own ones, one that is moved a little, and others.
func singles(l []api.Rect) []api.Rect {
	s := boxes(web, api.Rect{}, box(4, 4, 0, end), box(2, 7, 1, 9), box(0, wide, 3, 6), box(wide/2, wide, 0, end/2))
	if len(l) == 0 {
		return s
	}
	r := l[len(l)/2]
	moved := box(r.Left/2, min(r.Right+1, wide), r.From/2, min(r.To+1, end))
	return append(s, l[0], r, l[len(l)-1], moved)
}

func TestRestOfLargeRectangles(t *testing.T) {
	for _, l := range large() {
		for _, r := range singles(l) {
			expectRest(t, r, l, area(before(r, l), func(x int, y int) bool { return has(r, x, y) && holders(l, x, y) == 0 }))
		}
	}
}

// P15.7

func TestClipExamples(t *testing.T) {
	r := box(0, 10, 0, 100)
	for _, c := range []struct {
		name    string
		l       []api.Rect
		r       api.Rect
		clipped []api.Rect
	}{
		{"no list", nil, r, nil}, {"an empty list", boxes(), r, nil}, {"itself", boxes(r), r, boxes(r)}, {"three times itself", boxes(r, r, r), r, boxes(r, r, r)}, {"all of them", boxes(box(5, 20, 50, 80), box(2, 3, 4, 5), r, box(0, 90, 0, 900)), r, boxes(box(5, 10, 50, 80), box(2, 3, 4, 5), r, r)}, {"some of them", boxes(box(5, 20, 100, 180), box(5, 20, 50, 80), box(2, 2, 0, 9), r), r, boxes(box(5, 10, 50, 80), r)}, {"the first one only", boxes(box(1, 3, 50, 80), box(10, 20, 0, 9), box(0, 9, 100, 101)), r, boxes(box(1, 3, 50, 80))}, {"the last one only", boxes(box(10, 20, 0, 9), box(0, 9, 100, 101), box(1, 3, 50, 80)), r, boxes(box(1, 3, 50, 80))}, {"the middle one only", boxes(box(10, 20, 0, 9), box(1, 3, 50, 80), box(0, 9, 100, 101)), r, boxes(box(1, 3, 50, 80))}, {"none of them", boxes(box(10, 20, 0, 9), box(0, 9, 100, 101), box(10, 11, 100, 101), box(50, 60, 700, 800)), r, nil},
		{"in order", boxes(box(7, 9, 80, 300), box(1, 2, 3, 4), box(7, 90, 80, 90), box(0, 5, 60, 70)), r, boxes(box(7, 9, 80, 100), box(1, 2, 3, 4), box(7, 10, 80, 90), box(0, 5, 60, 70))}, {"equal parts", boxes(box(4, 15, 50, 120), box(4, 30, 50, 100), box(4, 10, 50, 900)), r, boxes(box(4, 10, 50, 100), box(4, 10, 50, 100), box(4, 10, 50, 100))}, {"one point each", boxes(box(9, 30, 99, 300), box(0, 1, 0, 1)), r, boxes(box(9, 10, 99, 100), box(0, 1, 0, 1))},
		{"without points", lines(), r, nil}, {"without points and with", boxes(box(3, 3, 0, 9), box(1, 2, 3, 4), box(0, 9, 7, 7)), r, boxes(box(1, 2, 3, 4))}, {"to one without points", boxes(r, web), box(3, 3, 0, 100), nil}, {"to the zero value", boxes(r, web, api.Rect{}), api.Rect{}, nil},
		{"to the whole web", boxes(r, web, box(3, 3, 0, 9)), web, boxes(r, web)}, {"the whole web", boxes(web), r, boxes(r)}, {"the corners of the web", corners(), web, corners()}, {"one corner of the web", corners(), box(wide-9, wide, end-9, end), boxes(box(wide-1, wide, end-1, end))}, {"the hole of a ring", ring(), box(2, 8, 2, 8), nil}, {"a corner of a ring", ring(), box(0, 3, 0, 3), boxes(box(0, 3, 0, 2), box(0, 2, 0, 3))},
		{"64 equal ones", repeated(most, box(5, 20, 50, 80)), r, repeated(most, box(5, 10, 50, 80))}, {"64 tiles", tiles(8, 8, 5, 6), web, tiles(8, 8, 5, 6)}, {"two of 64 tiles", tiles(8, 8, 5, 6), box(4, 6, 0, 6), boxes(box(4, 5, 0, 6), box(5, 6, 0, 6))}, {"none of 64", apart(8, 8, 10, 10), box(0, 80, 9, 10), nil}, {"64 zero values", repeated(most, api.Rect{}), web, nil},
	} {
		if l, e := rect.Clip(c.l, c.r); !slices.Equal(l, c.clipped) || e != api.OK {
			t.Errorf("%s: Clip = %v of %d, %d, not %v", c.name, brief(l), len(l), e, brief(c.clipped))
		}
	}
}

// clipped is what Clip must return.
func clipped(l []api.Rect, r api.Rect) []api.Rect {
	var parts []api.Rect
	for _, x := range l {
		if c, ok := common(x, r); ok {
			parts = append(parts, c)
		}
	}
	return parts
}

func TestClipOfSmallRectangles(t *testing.T) {
	for _, l := range slices.Concat(pairs(), triples()) {
		r, others := l[0], l[1:]
		expectClip(t, others, r, clipped(others, r))
	}
}

func TestClipOfLargeRectangles(t *testing.T) {
	for _, l := range large() {
		for _, r := range singles(l) {
			expectClip(t, l, r, clipped(l, r))
		}
	}
}

// P15.8

func TestSidesExamples(t *testing.T) {
	a := box(0, 10, 0, 100)
	for _, c := range []struct {
		name          string
		l             []api.Rect
		along, across []api.Span
	}{
		{"the example", boxes(a, box(3, 3, 500, 600), box(5, 20, 100, 180)), spans(0, 180), spans(0, 20)}, {"no list", nil, nil, nil}, {"an empty list", boxes(), nil, nil}, {"one", boxes(a), spans(0, 100), spans(0, 10)}, {"equal", boxes(a, a), spans(0, 100), spans(0, 10)}, {"apart", boxes(a, box(50, 60, 500, 700)), spans(0, 100, 500, 700), spans(0, 10, 50, 60)}, {"apart across only", boxes(a, box(50, 60, 20, 30)), spans(0, 100), spans(0, 10, 50, 60)}, {"apart along only", boxes(a, box(2, 5, 500, 600)), spans(0, 100, 500, 600), spans(0, 10)}, {"one millimetre apart", boxes(a, box(11, 20, 101, 200)), spans(0, 100, 101, 200), spans(0, 10, 11, 20)},
		{"side by side", boxes(a, box(10, 20, 0, 100)), spans(0, 100), spans(0, 20)}, {"end to end", boxes(a, box(0, 10, 100, 150)), spans(0, 150), spans(0, 10)}, {"at a corner", boxes(a, box(10, 20, 100, 200)), spans(0, 200), spans(0, 20)}, {"overlapping", boxes(box(3, 9, 10, 50), box(5, 12, 40, 90)), spans(10, 90), spans(3, 12)}, {"inside", boxes(a, box(3, 5, 20, 90)), spans(0, 100), spans(0, 10)}, {"a cross", boxes(box(4, 6, 0, 10), box(0, 10, 4, 6)), spans(0, 10), spans(0, 10)}, {"a ring", ring(), spans(0, 10), spans(0, 10)}, {"out of order", boxes(box(50, 60, 0, 9), box(7, 9, 700, 800), box(20, 30, 300, 400)), spans(0, 9, 300, 400, 700, 800), spans(7, 9, 20, 30, 50, 60)}, {"three in a row", boxes(box(0, 4, 0, 4), box(8, 12, 8, 12), box(4, 8, 4, 8)), spans(0, 12), spans(0, 12)}, {"positions in the order of the other ones", boxes(box(0, 2, 70, 80), box(4, 6, 40, 50), box(8, 9, 10, 20)), spans(10, 20, 40, 50, 70, 80), spans(0, 2, 4, 6, 8, 9)},
		{"without points", lines(), nil, nil}, {"the zero value", boxes(api.Rect{}), nil, nil}, {"a line that would close a gap along", boxes(box(0, 5, 0, 10), box(3, 3, 10, 20), box(0, 5, 20, 30)), spans(0, 10, 20, 30), spans(0, 5)}, {"a line that would close a gap across", boxes(box(0, 5, 0, 10), box(5, 8, 7, 7), box(8, 9, 0, 10)), spans(0, 10), spans(0, 5, 8, 9)}, {"a long line along", boxes(box(7, 7, 0, end), box(3, 4, 5, 6)), spans(5, 6), spans(3, 4)}, {"a long line across", boxes(box(0, wide, 9, 9), box(3, 4, 5, 6)), spans(5, 6), spans(3, 4)}, {"a place in a gap", boxes(box(0, 5, 0, 5), box(6, 6, 6, 6), box(7, 9, 7, 9)), spans(0, 5, 7, 9), spans(0, 5, 7, 9)},
		{"the whole web", boxes(web), spans(0, end), spans(0, wide)}, {"one point at each corner", corners(), spans(0, 1, end-1, end), spans(0, 1, wide-1, wide)}, {"the whole web and its corners", behind(corners(), web), spans(0, end), spans(0, wide)}, {"all but one row", boxes(box(0, wide, 0, 7), box(0, wide, 8, end)), spans(0, 7, 8, end), spans(0, wide)}, {"all but one column", boxes(box(0, 7, 0, end), box(8, wide, 0, end)), spans(0, end), spans(0, 7, 8, wide)},
		{"64 equal ones", repeated(most, box(3, 9, 10, 80)), spans(10, 80), spans(3, 9)}, {"64 tiles over the web", tiles(8, 8, wide/8, end/8), spans(0, end), spans(0, wide)}, {"64 apart", apart(8, 8, 10, 10), spans(0, 9, 10, 19, 20, 29, 30, 39, 40, 49, 50, 59, 60, 69, 70, 79), spans(0, 9, 10, 19, 20, 29, 30, 39, 40, 49, 50, 59, 60, 69, 70, 79)}, {"64 lines", repeated(most, box(0, wide, 5, 5)), nil, nil},
	} {
		for _, l := range [][]api.Rect{c.l, reversed(c.l)} {
			if s, e := rect.Along(l); !slices.Equal(s, c.along) || e != api.OK {
				t.Errorf("%s: Along = %v, %d, not %v", c.name, s, e, c.along)
			}
			if s, e := rect.Across(l); !slices.Equal(s, c.across) || e != api.OK {
				t.Errorf("%s: Across = %v, %d, not %v", c.name, s, e, c.across)
			}
		}
	}
}

// 64 of them stand apart along and across, so that each one is a span of its own.
func TestSidesOfManyApart(t *testing.T) {
	var l []api.Rect
	var along, across []api.Span
	for i := range most {
		l = append(l, box(wide-2*i-1, wide-2*i, 5*i, 5*i+4))
		along = append(along, api.Span{From: 5 * i, To: 5*i + 4})
		across = append(spans(wide-2*i-1, wide-2*i), across...)
	}
	expectSides(t, l, along, across)
	expectSides(t, reversed(l), along, across)
}

func TestSidesOfSmallRectangles(t *testing.T) {
	for _, l := range slices.Concat(pairs(), triples()) {
		expectSides(t, l, shadowAlong(l), shadowAcross(l))
	}
}

func TestSidesOfLargeRectangles(t *testing.T) {
	for _, l := range large() {
		expectSides(t, l, shadowAlong(l), shadowAcross(l))
	}
}

// P15.9

func TestDisjointExamples(t *testing.T) {
	a, everything := box(0, 10, 0, 100), box(least, great, least, great)
	for _, c := range []struct {
		name string
		l    []api.Rect
		is   bool
	}{
		{"no list", nil, true}, {"an empty list", boxes(), true}, {"one", boxes(a), true}, {"equal", boxes(a, a), false}, {"equal points", boxes(box(3, 4, 5, 6), box(3, 4, 5, 6)), false}, {"overlapping", boxes(a, box(5, 20, 50, 80)), false}, {"inside", boxes(a, box(2, 3, 4, 9)), false}, {"a cross", boxes(box(4, 6, 0, 10), box(0, 10, 4, 6)), false}, {"one point in common", boxes(a, box(9, 30, 99, 300)), false}, {"one point at the other corner", boxes(box(9, 30, 0, 1), a), false}, {"one column in common", boxes(a, box(9, 30, 0, 100)), false}, {"one row in common", boxes(a, box(0, 10, 99, 300)), false},
		{"side by side", boxes(a, box(10, 20, 0, 100)), true}, {"end to end", boxes(a, box(0, 10, 100, 200)), true}, {"at a corner", boxes(a, box(10, 20, 100, 200)), true}, {"at the other corner", boxes(box(10, 20, 0, 100), box(0, 10, 100, 200)), true}, {"apart across", boxes(a, box(11, 20, 0, 100)), true}, {"apart along", boxes(a, box(0, 10, 101, 200)), true}, {"apart across and along", boxes(a, box(50, 60, 500, 600)), true}, {"the first and the last one", boxes(box(0, 50, 0, 1), box(0, 50, 1, 2), box(0, 50, 2, 3), box(0, 50, 0, 1)), false}, {"the first and the last one, a long one", boxes(box(0, 5, 0, 90), box(5, 9, 10, 20), box(5, 9, 20, 30), box(4, 9, 80, 90)), false}, {"a long one beside short ones", boxes(box(0, 5, 0, 90), box(5, 9, 10, 20), box(5, 9, 20, 30), box(5, 9, 80, 90)), true},
		{"a ring that overlaps itself", ring(), false}, {"a ring without overlaps", wheel(), true}, {"a ring and its hole", behind(wheel(), box(2, 8, 2, 8)), true}, {"a ring and more than its hole", behind(wheel(), box(2, 8, 2, 9)), false},
		{"equal lines", boxes(box(3, 3, 0, 100), box(3, 3, 0, 100)), true}, {"two zero values", boxes(api.Rect{}, api.Rect{}), true}, {"a line inside", boxes(a, box(3, 3, 20, 80)), true}, {"a line across inside", boxes(a, box(3, 7, 20, 20)), true}, {"a place inside", boxes(a, box(3, 3, 20, 20)), true}, {"a line at the rim", boxes(a, box(10, 10, 0, 100)), true}, {"Left above Right", boxes(a, box(9, 8, 0, 100)), true}, {"From above To", boxes(a, box(0, 10, 9, 8)), true}, {"both above", boxes(a, box(9, 8, 9, 8)), true}, {"both far above", boxes(everything, box(great, least, great, least)), true}, {"without points", slices.Concat(lines(), strange(), lines()), true}, {"without points and one with", slices.Concat(lines(), boxes(web), strange()), true}, {"without points and two with", slices.Concat(boxes(web), lines(), strange(), boxes(a)), false}, {"a line between equal ones", boxes(a, box(0, 10, 5, 5), a), false}, {"a long line before equal ones", boxes(box(3, 3, least, great), a, box(0, 10, 20, 10), a), false},
		{"everything twice", boxes(everything, everything), false}, {"everything and a point", boxes(everything, box(0, 1, 0, 1)), false}, {"everything and its last point", boxes(everything, box(great-1, great, great-1, great)), false}, {"the first and the last points", boxes(box(least, least+1, least, least+1), box(great-1, great, great-1, great), box(least, least+1, great-1, great), box(great-1, great, least, least+1)), true}, {"halves of everything", boxes(box(least, 0, least, great), box(0, great, least, great)), true}, {"halves of everything along", boxes(box(least, great, 0, great), box(least, great, least, 0)), true}, {"halves with one row in common", boxes(box(least, great, 0, great), box(least, great, least, 1)), false}, {"below 0", boxes(box(-9, -5, -50, -40), box(-5, -2, -50, -40), box(-9, -2, -40, -30)), true}, {"below 0, overlapping", boxes(box(-9, -5, -50, -40), box(-6, -2, -41, -30)), false},
		{"the web and a corner", boxes(web, box(wide-1, wide, end-1, end)), false}, {"the corners of the web", corners(), true}, {"64 tiles", tiles(8, 8, wide/8, end/8), true}, {"64 tiles and one that reaches into the last one", changed(tiles(8, 8, 10, 10), 0, box(79, 80, 79, 80)), false}, {"64 equal ones", repeated(most, a), false}, {"64 apart", apart(8, 8, 10, 10), true}, {"64 zero values", repeated(most, api.Rect{}), true}, {"64 steps", stairs(most), false},
	} {
		for _, l := range [][]api.Rect{c.l, reversed(c.l)} {
			if is := rect.Disjoint(l); is != c.is {
				t.Errorf("%s: Disjoint = %t", c.name, is)
			}
		}
	}
}

// shares reports whether a point with positions from -1 to 1 is in two of the rectangles.
func shares(l []api.Rect) bool {
	for x := -1; x < 2; x++ {
		for y := -1; y < 2; y++ {
			if holders(l, x, y) > 1 {
				return true
			}
		}
	}
	return false
}

// The ends are in any order here.
func TestDisjointOfSmallRectangles(t *testing.T) {
	small := ranged(-1, 2)
	for _, a := range small {
		for _, b := range small {
			l := boxes(a, b)
			expectDisjoint(t, l, !shares(l))
		}
	}
	smaller := ranged(-1, 1)
	for _, a := range smaller {
		for _, b := range smaller {
			for _, c := range smaller {
				l := boxes(a, b, c)
				expectDisjoint(t, l, !shares(l))
			}
		}
	}
}

func TestDisjointOfExtremeRectangles(t *testing.T) {
	places := []int{least, least + 1, 0, great - 1, great}
	extreme := made(places, places)
	for _, a := range extreme {
		for _, b := range extreme {
			_, is := common(a, b)
			expectDisjoint(t, boxes(a, b), !is)
		}
	}
}

func TestDisjointOfLargeRectangles(t *testing.T) {
	for _, l := range large() {
		expectDisjoint(t, l, area(l, func(x int, y int) bool { return holders(l, x, y) > 1 }) == 0)
	}
}

// One of the tiles reaches into another one by a point, wherever both are.
func TestDisjointOfTwoAmongMany(t *testing.T) {
	l := tiles(8, 8, 5, 6)
	for i := range l {
		for k, r := range l {
			if i == k {
				continue
			}
			expectDisjoint(t, changed(l, i, box(r.Left, r.Left+1, r.From, r.From+1)), false)
			expectDisjoint(t, changed(l, i, box(r.Right-1, r.Right, r.To-1, r.To)), false)
			expectDisjoint(t, changed(l, i, box(r.Right, r.Right, r.From, r.To)), true)
		}
		expectDisjoint(t, changed(l, i, box(1000, 1001, -1000, 1000)), true)
	}
}

// Lists may be longer than MaxRects.
func TestDisjointOfLongLists(t *testing.T) {
	for _, l := range [][]api.Rect{tiles(1, most+1, 3, 4), tiles(most+1, 1, 3, 4), tiles(10, 10, wide, end), tiles(1000, 1, wide, end), tiles(1, 70000, wide, end), tiles(128, 128, 1, 1), apart(128, 128, 3, 2)} {
		last := len(l) - 1
		expectDisjoint(t, l, true)
		expectDisjoint(t, reversed(l), true)
		for _, i := range []int{0, most - 1, most, last / 2, last} {
			r := l[i]
			point := box(r.Right-1, r.Right, r.To-1, r.To)
			expectDisjoint(t, before(point, l), false)
			expectDisjoint(t, behind(l, point), false)
			expectDisjoint(t, behind(l, box(r.Right, r.Right-1, r.From, r.To)), true)
			expectDisjoint(t, before(box(r.Left, r.Right, r.To, r.To), l), true)
		}
	}
	for _, n := range []int{most + 1, 1000, 1 << 17} {
		expectDisjoint(t, repeated(n, box(3, 9, 10, 80)), false)
		for _, r := range boxes(api.Rect{}, box(7, 7, 0, end), box(8, 7, least, great), box(great, least, great, least)) {
			expectDisjoint(t, repeated(n, r), true)
			expectDisjoint(t, before(web, repeated(n, r)), true)
			expectDisjoint(t, before(web, behind(repeated(n, r), web)), false)
		}
	}
}

// P15.10

func TestAreasOfTwo(t *testing.T) {
	lists := pairs()
	for _, l := range large() {
		for i := 1; i < len(l); i += 3 {
			lists = append(lists, boxes(l[i-1], l[i]), boxes(l[i], l[0]))
		}
	}
	for _, l := range lists {
		c, _ := rect.Common(l[0], l[1])
		expectCover(t, l, areaOf(t, l[0])+areaOf(t, l[1])-areaOf(t, c))
	}
}

func TestCoverOfOneMore(t *testing.T) {
	for _, l := range slices.Concat(pairs(), triples()) {
		r, others := l[0], l[1:]
		expectCover(t, behind(others, r), coverOf(t, others)+restOf(t, r, others))
	}
	for _, l := range large() {
		if len(l) == most {
			l = l[1:]
		}
		for _, r := range singles(l) {
			n := coverOf(t, l) + restOf(t, r, l)
			expectCover(t, behind(l, r), n)
			expectCover(t, before(r, l), n)
		}
	}
}

func TestRestIsWhatIsNotCovered(t *testing.T) {
	for _, l := range slices.Concat(pairs(), triples()) {
		r, others := l[0], l[1:]
		expectRest(t, r, others, areaOf(t, r)-coverOf(t, clipOf(t, others, r)))
	}
	for _, l := range large() {
		for _, r := range singles(l) {
			expectRest(t, r, l, areaOf(t, r)-coverOf(t, clipOf(t, l, r)))
		}
	}
}

// P15.11

func TestDisjointIfCoverIsTheSumOfTheAreas(t *testing.T) {
	for _, l := range slices.Concat(pairs(), triples(), large()) {
		sum := 0
		for _, r := range l {
			sum += areaOf(t, r)
		}
		expectDisjoint(t, l, coverOf(t, l) == sum)
	}
}

// P15.12

// The points are between the ends of the rectangles, and next to them.
func TestPointsOfCommon(t *testing.T) {
	small := ranged(-1, 2)
	for _, a := range small {
		for _, b := range small {
			c, _ := rect.Common(a, b)
			for x := -2; x < 4; x++ {
				for y := -2; y < 4; y++ {
					if has(c, x, y) != (has(a, x, y) && has(b, x, y)) {
						t.Fatalf("the point %d, %d and Common(%v, %v) = %v", x, y, a, b, c)
					}
				}
			}
		}
	}
}

func TestPointsOfCommonOfLargeRectangles(t *testing.T) {
	for _, l := range large() {
		for i, b := range l {
			a := l[i/2]
			c, _ := rect.Common(a, b)
			across, along := ends(boxes(a, b))
			for _, x := range across {
				for _, y := range along {
					for _, p := range [][2]int{{x, y}, {x - 1, y}, {x, y - 1}, {x - 1, y - 1}} {
						if has(c, p[0], p[1]) != (has(a, p[0], p[1]) && has(b, p[0], p[1])) {
							t.Fatalf("the point %v and Common(%v, %v) = %v", p, a, b, c)
						}
					}
				}
			}
		}
	}
}

func TestPointsAreInTheirPositions(t *testing.T) {
	for _, l := range slices.Concat(pairs(), large()) {
		s, e := rect.Along(l)
		along := valid(t, l, s, e)
		s, e = rect.Across(l)
		across := valid(t, l, s, e)
		for _, r := range l {
			if r.Left == r.Right || r.From == r.To {
				continue
			}
			for _, x := range []int{r.Left, (r.Left + r.Right) / 2, r.Right - 1} {
				if !isIn(across, x) {
					t.Fatalf("%d of %v is not in Across(%v of %d) = %v", x, r, brief(l), len(l), across)
				}
			}
			for _, y := range []int{r.From, (r.From + r.To) / 2, r.To - 1} {
				if !isIn(along, y) {
					t.Fatalf("%d of %v is not in Along(%v of %d) = %v", y, r, brief(l), len(l), along)
				}
			}
		}
	}
}

// Memory

// room is what lies in the memory of an argument behind its end.
func room() []api.Rect { return repeated(2*most, box(-5, 9, -7, end)) }

// roomy is a copy of l with room behind it.
func roomy(l []api.Rect) []api.Rect { return slices.Concat(l, room())[:len(l)] }

// isKept reports whether l is still what roomy returned for kept.
func isKept(l []api.Rect, kept []api.Rect) bool {
	return slices.Equal(l[:len(kept)+2*most], slices.Concat(kept, room()))
}

// spoil also writes to the room behind l, which belongs to a result as well.
func spoil[T any](l []T, x T) {
	l = l[:cap(l)]
	for i := range l {
		l[i] = x
	}
}

func TestArgumentsAreNotChanged(t *testing.T) {
	lists := slices.Concat(large(), [][]api.Rect{strange(), reversed(strange()), reversed(tiles(10, 10, 3, 4)), behind(reversed(tiles(10, 10, 3, 4)), web)})
	for i, r := range refusals() {
		if i%50 == 0 {
			lists = append(lists, r.l)
		}
	}
	for _, l := range lists {
		x := roomy(l)
		rect.Disjoint(x)
		for _, c := range callers() {
			c.f(x)
		}
		along, _ := rect.Along(x)
		across, _ := rect.Across(x)
		parts, _ := rect.Clip(x, web)
		spoil(along, api.Span{From: -3, To: -2})
		spoil(across, api.Span{From: -3, To: -2})
		spoil(parts, box(-7, -8, -9, -10))
		if !isKept(x, l) {
			t.Fatalf("a function changes %v of %d, or its result shares its memory", brief(l), len(l))
		}
	}
}

func TestResultsShareNoMemory(t *testing.T) {
	for _, l := range large() {
		for _, r := range singles(l) {
			x := roomy(l)
			parts := clipOf(t, x, r)
			spoil(x[:0], box(-7, -8, -9, -10))
			if !slices.Equal(parts, clipped(l, r)) {
				t.Fatalf("Clip(%v of %d, %v) changes with its argument", brief(l), len(l), r)
			}
			again := clipOf(t, l, r)
			spoil(parts, box(-7, -8, -9, -10))
			if !slices.Equal(again, clipped(l, r)) {
				t.Fatalf("two results of Clip(%v of %d, %v) share memory", brief(l), len(l), r)
			}
			expectClip(t, l, r, again)
		}
	}
}

func TestSidesShareNoMemory(t *testing.T) {
	for _, l := range shaped() {
		along, _ := rect.Along(l)
		across, _ := rect.Across(l)
		spoil(along, api.Span{From: -3, To: -2})
		if !slices.Equal(across, shadowAcross(l)) {
			t.Fatalf("Along and Across of %v of %d share memory", brief(l), len(l))
		}
		spoil(across, api.Span{From: -3, To: -2})
		expectSides(t, l, shadowAlong(l), shadowAcross(l))
	}
}
