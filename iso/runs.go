package iso

import "papermill/api"

// normal is a map in normal form to which runs are added at its end.
type normal struct {
	runs []api.Run
}

// add leaves what the last run can take of r to it, and makes a run of the rest.
func (n *normal) add(r api.Run) {
	if len(n.runs) > 0 {
		last := &n.runs[len(n.runs)-1]
		longer, taken := grown(*last, r)
		*last = longer
		r = cut(r, api.Span{From: taken, To: r.Len})
	}
	if r.Len == 0 {
		return
	}
	r.Back = r.Back && r.Len > 1
	n.runs = append(n.runs, r)
}

// grown returns a run of a normal form with as many integers as it can take from the beginning of next, and their number.
func grown(last api.Run, next api.Run) (api.Run, int) {
	longer := last
	if last.Len == 1 {
		// A single integer has no direction yet: the one behind it decides.
		longer.Back = next.At < last.At
	}
	if image(longer, last.Len) != next.At {
		return last, 0
	}
	taken := next.Len
	if next.Back != longer.Back {
		taken = 1
	}
	longer.Len += taken
	return longer, taken
}

// whole returns the normal form of a map.
func whole(m []api.Run) []api.Run {
	return part(m, api.Span{To: total(m)})
}

// part returns the normal form of the part of a map that s says.
func part(m []api.Run, s api.Span) []api.Run {
	var n normal
	visit(m, s, n.add)
	return n.runs
}

// visit calls f with the runs that map the integers of s, in their order; of a run that goes beyond s, with the part within it.
func visit(m []api.Run, s api.Span, f func(r api.Run)) {
	begin := 0
	for _, r := range m {
		within := clamped(s.From-begin, s.To-begin, r.Len)
		if within.From < within.To {
			f(cut(r, within))
		}
		begin += r.Len
	}
}

// reversed returns the runs of the reverse of a map. They need not be its normal form.
func reversed(m []api.Run) []api.Run {
	l := make([]api.Run, len(m))
	for i, r := range m {
		l[len(m)-1-i] = api.Run{At: image(r, r.Len-1), Len: r.Len, Back: !r.Back}
	}
	return l
}

// limited returns ErrFull if there are more than MaxRuns runs.
func limited(m []api.Run) ([]api.Run, api.Errno) {
	if len(m) > api.MaxRuns {
		return nil, api.ErrFull
	}
	return m, api.OK
}

// checkBoth returns the error of Check for the first map, then for the second one.
func checkBoth(a []api.Run, b []api.Run) api.Errno {
	if e := Check(a); e != api.OK {
		return e
	}
	return Check(b)
}

// total returns the length of a map whose runs are in range.
func total(m []api.Run) int {
	sum := 0
	for _, r := range m {
		sum += r.Len
	}
	return sum
}

func inRange(r api.Run) bool {
	// The images are asked for last, because only of what is in range so far they do not overflow.
	return 1 <= r.Len && r.Len <= api.MaxLength && 0 <= r.At && r.At < api.MaxLength && isWithin(images(r), api.MaxLength)
}

// isWithin reports whether the ends of s are in order, and from 0 to length.
func isWithin(s api.Span, length int) bool {
	return 0 <= s.From && s.From <= s.To && s.To <= length
}

// image returns the image of the integer at x, counted from the first one of a run; also that which the integer behind the last one would have.
func image(r api.Run, x int) int {
	if r.Back {
		return r.At - x
	}
	return r.At + x
}

func images(r api.Run) api.Span {
	if r.Back {
		return api.Span{From: r.At - r.Len + 1, To: r.At + 1}
	}
	return api.Span{From: r.At, To: r.At + r.Len}
}

func imageSpans(m []api.Run) []api.Span {
	l := make([]api.Span, len(m))
	for i, r := range m {
		l[i] = images(r)
	}
	return l
}

// sources returns the integers whose images are in s, counted from the first one of a run.
func sources(r api.Run, s api.Span) api.Span {
	if r.Back {
		return clamped(r.At-s.To+1, r.At-s.From+1, r.Len)
	}
	return clamped(s.From-r.At, s.To-r.At, r.Len)
}

// cut returns the part of a run that s says, counted from its first integer.
func cut(r api.Run, s api.Span) api.Run {
	return api.Run{At: image(r, s.From), Len: s.To - s.From, Back: r.Back}
}

// clamped returns the span of the integers from from to to - 1 that are below length and not negative. Its ends are in range also if there are none.
func clamped(from int, to int, length int) api.Span {
	limit := func(n int) int { return min(max(n, 0), length) }
	return api.Span{From: limit(from), To: limit(to)}
}
