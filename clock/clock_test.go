package clock_test

import (
	"fmt"
	"math"
	"regexp"
	"slices"
	"strconv"
	"strings"
	"testing"

	"papermill/api"
	"papermill/clock"
)

const (
	last     = api.MaxTime
	lastDay  = last / api.Day
	lastForm = "24855 03:14:07"
)

// noMoments are below 0 or above MaxTime.
func noMoments() []int {
	return []int{
		-1, -2, -59, -60, -api.ShiftSecs, -api.Day, -last, -last - 1, -1 << 32, -1 << 50, math.MinInt, math.MinInt + 1,
		last + 1, last + 2, last + api.ShiftSecs, last + api.Day, 1 << 32, 1<<32 + 1, 1 << 50, math.MaxInt - 1, math.MaxInt,
	}
}

// edges are moments at and next to the beginnings of days, shifts, hours and minutes, of the first day, some others and the last ones.
func edges() []int {
	var l []int
	for _, day := range []int{0, 1, 2, 9, 10, 99, 100, 999, 1000, 9999, 10000, lastDay - 1, lastDay} {
		for _, second := range []int{0, 1, 9, 10, 59, 60, 61, 599, 600, 3599, 3600, 9 * 3600, 10 * 3600, 20*3600 - 1, 20 * 3600, 28799, 28800, 28801, 57599, 57600, 57601, 86398, 86399} {
			l = append(l, day*api.Day+second)
		}
	}
	l = append(l, last-1, last)
	return slices.DeleteFunc(l, func(t int) bool { return t > last })
}

// reading is what a clock shows that goes on second by second.
type reading struct {
	day, shift, hour, minute, second int
}

func (r *reading) tick() {
	r.second++
	if r.second == 60 {
		r.second = 0
		r.minute++
	}
	if r.minute == 60 {
		r.minute = 0
		r.hour++
		r.shift = r.hour / 8
	}
	if r.hour == 24 {
		r.hour, r.shift = 0, 0
		r.day++
	}
}

func (r reading) form() string {
	two := func(n int) string { return strconv.Itoa(100 + n)[1:] }
	return strconv.Itoa(r.day) + " " + two(r.hour) + ":" + two(r.minute) + ":" + two(r.second)
}

// seconds calls see for each moment of some days, among them those whose numbers get a digit more, and for the last moments.
func seconds(see func(t int, r reading)) {
	for _, days := range [][2]int{{0, 1}, {9, 10}, {99, 99}, {10000, 10000}, {lastDay - 1, lastDay}} {
		r := reading{day: days[0]}
		for t := days[0] * api.Day; t < (days[1]+1)*api.Day && t <= last; t++ {
			see(t, r)
			r.tick()
		}
	}
}

// P5.1

func TestShiftExamples(t *testing.T) {
	for _, c := range []struct {
		name          string
		t, day, shift int
	}{
		{"the example", 100000, 1, 0},
		{"the first moment", 0, 0, 0}, {"the second one", 1, 0, 0}, {"the last second of shift 0", 28799, 0, 0}, {"the first second of shift 1", 28800, 0, 1}, {"the last second of shift 1", 57599, 0, 1}, {"the first second of shift 2", 57600, 0, 2}, {"the last second of day 0", 86399, 0, 2},
		{"the first second of day 1", 86400, 1, 0}, {"shift 1 of day 1", 115200, 1, 1}, {"shift 2 of day 1", 144000, 1, 2}, {"the last second of day 1", 172799, 1, 2},
		{"the first second of the last day", 2147472000, 24855, 0}, {"the second before it", 2147471999, 24854, 2}, {"MaxTime", 2147483647, 24855, 0},
	} {
		day, shift, e := clock.Shift(c.t)
		if day != c.day || shift != c.shift || e != api.OK {
			t.Errorf("%s: Shift(%d) = %d, %d, %d", c.name, c.t, day, shift, e)
		}
	}
}

func TestShift(t *testing.T) {
	seconds(func(x int, r reading) {
		day, shift, e := clock.Shift(x)
		if day != r.day || shift != r.shift || e != api.OK {
			t.Fatalf("Shift(%d) = %d, %d, %d, not %d, %d", x, day, shift, e, r.day, r.shift)
		}
	})
}

func TestShiftsOfAllDays(t *testing.T) {
	for day := range lastDay {
		for shift := range 3 {
			begin := day*86400 + shift*28800
			for _, x := range []int{begin, begin + 28799} {
				d, k, e := clock.Shift(x)
				if d != day || k != shift || e != api.OK {
					t.Fatalf("Shift(%d) = %d, %d, %d, not %d, %d", x, d, k, e, day, shift)
				}
			}
		}
	}
}

func TestShiftRefusesNoMoments(t *testing.T) {
	for _, x := range noMoments() {
		if day, shift, e := clock.Shift(x); day != 0 || shift != 0 || e != api.ErrRange {
			t.Errorf("Shift(%d) = %d, %d, %d", x, day, shift, e)
		}
	}
}

// P5.2

// forms are moments with their forms.
func forms() map[int]string {
	return map[int]string{
		100000: "1 03:46:40", 342309: "3 23:05:09",
		0: "0 00:00:00", 1: "0 00:00:01", 9: "0 00:00:09", 10: "0 00:00:10", 59: "0 00:00:59", 60: "0 00:01:00", 599: "0 00:09:59", 600: "0 00:10:00", 3599: "0 00:59:59", 3600: "0 01:00:00", 35999: "0 09:59:59", 36000: "0 10:00:00",
		28799: "0 07:59:59", 28800: "0 08:00:00", 57600: "0 16:00:00", 86399: "0 23:59:59", 86400: "1 00:00:00", 172799: "1 23:59:59",
		863999: "9 23:59:59", 864000: "10 00:00:00", 8640000: "100 00:00:00", 86400000: "1000 00:00:00", 864000000: "10000 00:00:00", 1066706543: "12346 03:22:23",
		2147471999: "24854 23:59:59", 2147472000: "24855 00:00:00", 2147483646: "24855 03:14:06", last: lastForm,
	}
}

func checkFormat(t *testing.T, x int, form string) {
	t.Helper()
	if s, e := clock.Format(x); s != form || e != api.OK {
		t.Fatalf("Format(%d) = %q, %d, not %q", x, s, e, form)
	}
}

func TestFormatExamples(t *testing.T) {
	for x, form := range forms() {
		checkFormat(t, x, form)
	}
}

func TestFormat(t *testing.T) {
	seconds(func(x int, r reading) { checkFormat(t, x, r.form()) })
}

func TestFormatRefusesNoMoments(t *testing.T) {
	for _, x := range noMoments() {
		if s, e := clock.Format(x); s != "" || e != api.ErrRange {
			t.Errorf("Format(%d) = %q, %d", x, s, e)
		}
	}
}

// P5.3

// checkParse reports an error unless Parse returns x and e.
func checkParse(t *testing.T, s string, x int, e api.Errno) {
	t.Helper()
	if y, f := clock.Parse(s); y != x || f != e {
		t.Errorf("Parse(%.40q) = %d, %d, not %d, %d", s, y, f, x, e)
	}
}

func TestParseExamples(t *testing.T) {
	for x, form := range forms() {
		checkParse(t, form, x, api.OK)
	}
}

func TestParse(t *testing.T) {
	seconds(func(x int, r reading) { checkParse(t, r.form(), x, api.OK) })
}

func TestParseRefuses(t *testing.T) {
	for name, l := range map[string][]string{
		"nothing, or parts":       {"", " ", "0", "0 ", "1 03", "1 03:46", "1 03:46:", "03:46:40", " 03:46:40", "1", "::", " ::", "0 ::", "100000", ":", "1 ", "1 :46:40", "1 03::40", "1 03:46:"},
		"a sign":                  {"-1 03:46:40", "+1 03:46:40", "-0 00:00:00", "+0 00:00:00", "1 +3:46:40", "1 -3:46:40", "1 03:+6:40", "1 03:46:-0", "1 03:46:+1", "1 -03:46:40", "1 03:46:-40", "0 00:00:-1"},
		"leading zeros":           {"01 03:46:40", "001 03:46:40", "00 00:00:00", "000 00:00:00", "0000000001 03:46:40", "024855 03:14:07", "007 00:00:00", "00000000000000000000000000000000000001 03:46:40"},
		"further spaces":          {" 1 03:46:40", "1  03:46:40", "1 03:46:40 ", "1 03 :46:40", "1 03: 46:40", "1 3:46:40", "1 03:46: 0", "  1 03:46:40", "1 03:46:40  ", "1 0 3:46:40", "1  3:46:40", "\t1 03:46:40", "1 03:46:40\t", "1\t03:46:40", "1 \t03:46:40", "1 03:46:40\v"},
		"other ends of lines":     {"1 03:46:40\n", "1 03:46:40\r\n", "\n1 03:46:40", "1\n03:46:40", "1 03:46:40\r", "1 03:46:40\x00", "\x001 03:46:40", "1\x0003:46:40", "1 03:46:40\n1 03:46:40"},
		"an hour of 24 or more":   {"0 24:00:00", "1 24:00:00", "1 24:59:59", "3 25:00:00", "1 30:00:00", "0 99:00:00", "24854 24:00:00", "0 99:59:59"},
		"a minute of 60 or more":  {"0 00:60:00", "1 03:60:40", "1 23:60:00", "0 00:61:00", "0 00:70:00", "0 00:99:00", "0 23:60:59"},
		"a second of 60 or more":  {"0 00:00:60", "1 03:46:60", "1 23:59:60", "0 00:00:61", "0 00:00:70", "0 00:00:99", "24855 03:13:67"},
		"one digit too few":       {"1 3:46:40", "1 03:6:40", "1 03:46:0", "1 3:6:0", "1 :46:40", "0 0:0:0", "0 0:00:00", "0 00:0:00", "0 00:00:0", " 00:00:00"},
		"one digit too many":      {"1 003:46:40", "1 03:046:40", "1 03:46:040", "1 03:46:400", "1 03:460:40", "1 030:46:40", "0 000:00:00", "0 00:000:00", "0 00:00:000", "0 000:000:000"},
		"other characters":        {"a 03:46:40", "1 0a:46:40", "1 03:4b:40", "1 03:46:4c", "1,03:46:40", "1-03:46:40", "1 03.46:40", "1 03:46.40", "1 03;46:40", "1:03:46:40", "1_0 03:46:40", "0x1 03:46:40", "1e1 03:46:40", "1.0 03:46:40", "1 03:46:4O", "1d 03:46:40", "1/03:46:40", "1 03/46/40", "1 03:46:40:", "1 03:46:40:00", ":1 03:46:40", "1 03 46 40", "1:03:46 40", "1 03:46:40Z", "\"1 03:46:40\"", "1 03:46:40.5"},
		"characters beyond ASCII": {"1\u00a003:46:40", "1\u200303:46:40", "\u0661 03:46:40", "1 0\u0663:46:40", "1 03\uff1a46:40", "\uff11 03:46:40", "\ufeff1 03:46:40", "1 03:46:40\u00e9", "1\u3000\u0660\u0663:46:40"},
		"bytes that are no text":  {"\xff", "\xff 03:46:40", "1\xff03:46:40", "1 03:46:40\xff", "\x80\x80 \x80\x80:\x80\x80:\x80\x80", "1 03\xba46:40", "\xb1 03:46:40", "1 03:46:4\xb0", "\xc0\xb1 03:46:40", "\xed\xa0\x80", "1 \xb003:46:40", "\x00", "\x00\x00\x00\x00"},
		"too late":                {"24855 03:14:08", "24855 03:14:59", "24855 03:15:00", "24855 04:00:00", "24855 23:59:59", "24856 00:00:00", "24856 03:14:07", "24900 00:00:00", "30000 00:00:00", "99999 23:59:59", "100000 00:00:00", "2147483647 00:00:00", "2147483648 00:00:00"},
		"days that overflow":      {"4294967296 00:00:00", "4294967297 03:46:40", "49710 06:28:16", "213503982334601 07:00:16", "9223372036854775807 00:00:00", "9223372036854775808 00:00:00", "18446744073709551616 00:00:00", "18446744073709551617 03:46:40", "184467440737095516160 00:00:00", "1" + strings.Repeat("0", 64) + " 00:00:00", strings.Repeat("9", 1000) + " 00:00:00"},
		"fields that overflow":    {"0 4294967296:00:00", "0 00:4294967296:00", "0 00:00:4294967296", "0 18446744073709551616:00:00", "0 00:18446744073709551617:00", "0 00:00:18446744073709551659", "1 03:46:100000000000000000000000000000000000000000000000000040", "0 " + strings.Repeat("9", 1000) + ":00:00"},
		"long":                    {strings.Repeat("0", 100000) + " 00:00:00", strings.Repeat(" ", 100000), strings.Repeat("1 03:46:40", 10000), strings.Repeat("9", 1000000), strings.Repeat(":", 1000000), "1 03:46:40" + strings.Repeat(" ", 100000), "1 03:46:40" + strings.Repeat(":40", 100000), strings.Repeat("\xff", 100000)},
	} {
		for _, s := range l {
			if x, e := clock.Parse(s); x != 0 || e != api.ErrForm {
				t.Errorf("%s: Parse(%.40q) = %d, %d", name, s, x, e)
			}
		}
	}
}

// isForm is what a form looks like, but for days that are too great.
var isForm = regexp.MustCompile(`\A(0|[1-9][0-9]{0,4}) ([01][0-9]|2[0-3]):([0-5][0-9]):([0-5][0-9])\z`)

// parsed is what Parse must return, with the errors of the form alone.
func parsed(s string) (int, api.Errno) {
	parts := isForm.FindStringSubmatch(s)
	if parts == nil {
		return 0, api.ErrForm
	}
	var f [4]int
	for i, part := range parts[1:] {
		f[i], _ = strconv.Atoi(part)
	}
	x := ((f[0]*24+f[1])*60+f[2])*60 + f[3]
	if x > last {
		return 0, api.ErrForm
	}
	return x, api.OK
}

func compareParse(t *testing.T, s string) {
	t.Helper()
	x, e := parsed(s)
	checkParse(t, s, x, e)
}

// Every form comes with one byte that is changed, left out or put in, with each byte; many of these strings are forms of other moments.
func TestParseOfStringsThatDifferInOneByte(t *testing.T) {
	for _, s := range []string{"0 00:00:00", "1 03:46:40", "9 23:59:59", "10 19:09:50", "2485 23:00:59", "24855 03:14:07", "24854 23:59:59"} {
		for i := range len(s) + 1 {
			for b := range 256 {
				put := string([]byte{byte(b)})
				compareParse(t, s[:i]+put+s[i:])
				if i < len(s) {
					compareParse(t, s[:i]+put+s[i+1:])
				}
			}
			if i < len(s) {
				compareParse(t, s[:i]+s[i+1:])
				compareParse(t, s[:i])
				compareParse(t, s[i:])
			}
		}
	}
}

// All hours, minutes and seconds of two digits come with the first, an ordinary, and the last day.
func TestParseOfAllFieldsOfTwoDigits(t *testing.T) {
	for _, day := range []int{0, 7, lastDay, lastDay + 1} {
		for a := range 100 {
			for b := range 100 {
				compareParse(t, fmt.Sprintf("%d %02d:%02d:00", day, a, b))
				compareParse(t, fmt.Sprintf("%d 03:%02d:%02d", day, a, b))
				compareParse(t, fmt.Sprintf("%d %02d:14:%02d", day, a, b))
			}
		}
	}
}

// All strings of a few characters that a form has, which are too short, and all that may stand for the day.
func TestParseOfShortStrings(t *testing.T) {
	var l []string
	for grown := []string{""}; len(grown[0]) < 5; {
		var longer []string
		for _, s := range grown {
			for _, c := range "0129 :-+" {
				longer = append(longer, s+string(c))
			}
		}
		grown = longer
		l = append(l, grown...)
	}
	for _, s := range l {
		compareParse(t, s)
		compareParse(t, s+" 03:14:07")
	}
}

// P5.4

func TestCrewExamples(t *testing.T) {
	three := []int{7, 0, 15}
	for _, c := range []struct {
		name    string
		pattern []int
		t, crew int
	}{
		{"the example", []int{4, 9}, 57600, 4},
		{"one element", []int{5}, 0, 5}, {"one element, later", []int{5}, 28800, 5}, {"one element, at MaxTime", []int{5}, last, 5}, {"one element of 0", []int{0}, 12345678, 0}, {"one element of 15", []int{15}, 12345678, 15},
		{"the first shift", []int{4, 9}, 0, 4}, {"its last second", []int{4, 9}, 28799, 4}, {"the second shift", []int{4, 9}, 28800, 9}, {"its last second", []int{4, 9}, 57599, 9}, {"the third shift", []int{4, 9}, 86399, 4}, {"the first shift of day 1", []int{4, 9}, 86400, 9},
		{"a pattern of a day, shift 0", three, 86400, 7}, {"a pattern of a day, shift 1", three, 86400 + 28800, 0}, {"a pattern of a day, shift 2", three, 86400 + 57600, 15},
		// MaxTime is in the shift with the number 74565.
		{"two elements at MaxTime", []int{4, 9}, last, 9}, {"three elements at MaxTime", three, last, 7}, {"four elements at MaxTime", []int{1, 2, 3, 4}, last, 2}, {"seven elements at MaxTime", []int{1, 2, 3, 4, 5, 6, 7}, last, 2},
	} {
		if crew, e := clock.Crew(c.pattern, c.t); crew != c.crew || e != api.OK {
			t.Errorf("%s: Crew(%v, %d) = %d, %d", c.name, c.pattern, c.t, crew, e)
		}
	}
}

// pattern has count elements, of which neighbours differ.
func pattern(count int) []int {
	l := make([]int, count)
	for i := range l {
		l[i] = (i*7 + i/16) % 16
	}
	return l
}

func TestCrew(t *testing.T) {
	for _, count := range []int{1, 2, 3, 4, 5, 15, 16, 17, 63, 64} {
		l := pattern(count)
		next := 0
		for begin := 0; begin <= last; begin += 28800 {
			for _, x := range []int{begin, min(begin+28799, last)} {
				if crew, e := clock.Crew(l, x); crew != l[next] || e != api.OK {
					t.Fatalf("Crew of %d elements at %d = %d, %d, not %d", count, x, crew, e, l[next])
				}
			}
			next++
			if next == count {
				next = 0
			}
		}
	}
}

func TestCrewRefuses(t *testing.T) {
	with := func(count int, at int, crew int) []int {
		l := pattern(count)
		l[at] = crew
		return l
	}
	moments := slices.Concat(noMoments(), []int{0, 1, 28800, last})
	for _, c := range []struct {
		name     string
		patterns [][]int
		times    []int
		e        api.Errno
	}{
		{"an empty pattern", [][]int{nil, {}, make([]int, 0, 5)}, moments, api.ErrEmpty},
		{"a pattern that is too long", [][]int{pattern(65), pattern(66), pattern(128), pattern(1000), make([]int, 100000), slices.Repeat([]int{-1}, 65), slices.Repeat([]int{16}, 65), with(65, 0, 16), with(65, 64, -1)}, moments, api.ErrFull},
		{"an element out of range", [][]int{{-1}, {16}, {math.MinInt}, {math.MaxInt}, {0, -1}, {16, 15}, {1, 16, 2}, {-1, 16}, with(64, 0, 16), with(64, 63, 16), with(64, 63, -1), with(64, 30, math.MaxInt), with(64, 30, math.MinInt), slices.Repeat([]int{16}, 64)}, moments, api.ErrRange},
		{"no moment", [][]int{{0}, {15}, {4, 9}, pattern(64)}, noMoments(), api.ErrRange},
	} {
		for _, l := range c.patterns {
			for _, x := range c.times {
				if crew, e := clock.Crew(l, x); crew != 0 || e != c.e {
					t.Errorf("%s: Crew of %d elements at %d = %d, %d, not %d", c.name, len(l), x, crew, e, c.e)
				}
			}
		}
	}
}

// An element that is out of range is refused wherever it is, whichever element is on duty.
func TestCrewChecksAllElements(t *testing.T) {
	for at := range 64 {
		l := pattern(64)
		for _, c := range []struct {
			crew int
			e    api.Errno
		}{{-1, api.ErrRange}, {0, api.OK}, {15, api.OK}, {16, api.ErrRange}} {
			l[at] = c.crew
			for n := range 64 {
				crew, e := clock.Crew(l, n*28800)
				if want := l[n]; e != c.e || e == api.OK && crew != want || e != api.OK && crew != 0 {
					t.Fatalf("Crew in shift %d with %d at %d = %d, %d", n, c.crew, at, crew, e)
				}
			}
		}
	}
}

func TestCrewChangesNoPattern(t *testing.T) {
	for _, count := range []int{0, 1, 2, 3, 64, 65} {
		l := append(pattern(count), -7, -8, -9)
		kept := slices.Clone(l)
		for _, x := range []int{0, 28800, 57600, last, -1} {
			clock.Crew(l[:count], x)
			if !slices.Equal(l, kept) {
				t.Fatalf("Crew of %d elements at %d changes the pattern to %v", count, x, l)
			}
		}
	}
}

// P5.5

// noTimes are spans that are turned round, or that do not lie within 0 to MaxTime + 1.
func noTimes() []api.Span {
	var l []api.Span
	for _, c := range [][2]int{
		{1, 0}, {3, 2}, {28800, 28799}, {last + 1, last}, {last + 1, 0}, {last, 0},
		{-1, 0}, {-1, 1}, {-1, -1}, {0, -1}, {-2, -1}, {-1, -2}, {-1, last + 1}, {-28800, 28800}, {-1, last + 2},
		{0, last + 2}, {last, last + 2}, {last + 1, last + 2}, {last + 2, last + 2}, {last + 2, last + 3}, {last + 3, last + 2}, {last + 2, last + 1}, {last + 2, 0}, {last + 2, -1},
		{math.MinInt, math.MinInt}, {math.MinInt, 0}, {0, math.MinInt}, {math.MinInt, last}, {math.MinInt, math.MaxInt}, {math.MaxInt, math.MinInt}, {math.MaxInt, math.MaxInt}, {0, math.MaxInt}, {math.MaxInt, 0}, {math.MaxInt - 1, math.MaxInt}, {last, math.MaxInt}, {5, math.MinInt},
	} {
		l = append(l, api.Span{From: c[0], To: c[1]})
	}
	return l
}

func TestStepsExamples(t *testing.T) {
	for _, c := range []struct {
		name              string
		from, to, secs, n int
	}{
		{"0 is a multiple", 0, 1, 10, 1}, {"0 is not in the span", 1, 2, 10, 0}, {"the end is not in the span", 1, 10, 10, 0}, {"the end and one more", 1, 11, 10, 1}, {"a multiple at the beginning", 10, 11, 10, 1}, {"a multiple before the beginning", 11, 20, 10, 0}, {"three multiples", 10, 31, 10, 3}, {"two multiples", 10, 30, 10, 2}, {"five multiples from 0 on", 0, 41, 10, 5},
		{"an empty span", 10, 10, 10, 0}, {"an empty span at 0", 0, 0, 1, 0}, {"an empty span at the end", last + 1, last + 1, 1, 0}, {"an empty span at the end, 2^31 is a multiple", last + 1, last + 1, 2, 0},
		{"every second", 17, 45, 1, 28}, {"everything", 0, last + 1, 1, 2147483648}, {"everything in steps of 2", 0, last + 1, 2, 1073741824}, {"everything in steps of 3", 0, last + 1, 3, 715827883}, {"all days", 0, last + 1, 86400, 24856}, {"all shifts", 0, last + 1, 28800, 74566}, {"all minutes", 0, last + 1, 60, 35791395},
		{"a day", 0, 86400, 86400, 1}, {"a day and one second", 0, 86401, 86400, 2}, {"the last second of a day and the first one", 86399, 86401, 86400, 1}, {"a day without its beginning", 1, 86400, 86400, 0}, {"the last second", last, last + 1, 1, 1}, {"the last second is no multiple", last, last + 1, 2, 0}, {"the last but one", last - 1, last + 1, 2, 1}, {"the last second in steps of 86399", last, last + 1, 86399, 0},
	} {
		if n, e := clock.Steps(api.Span{From: c.from, To: c.to}, c.secs); n != c.n || e != api.OK {
			t.Errorf("%s: Steps of %d to %d in %d = %d, %d, not %d", c.name, c.from, c.to, c.secs, n, e, c.n)
		}
	}
}

// windows calls see for all spans within each of some short windows: at 0, around the beginning of a day, and at the end.
func windows(size int, see func(s api.Span)) {
	for _, first := range []int{0, api.Day - size/2, last/2 - size/2, last + 1 - size} {
		for from := first; from <= first+size; from++ {
			for to := from; to <= first+size; to++ {
				see(api.Span{From: from, To: to})
			}
		}
	}
}

func TestSteps(t *testing.T) {
	windows(60, func(s api.Span) {
		for _, secs := range []int{1, 2, 3, 4, 5, 7, 10, 29, 30, 31, 59, 60, 61, 3600, 28800, 86399, 86400} {
			count := 0
			for x := s.From; x < s.To; x++ {
				if x%secs == 0 {
					count++
				}
			}
			if n, e := clock.Steps(s, secs); n != count || e != api.OK {
				t.Fatalf("Steps(%v, %d) = %d, %d, not %d", s, secs, n, e, count)
			}
		}
	})
}

func TestStepsOfLongSpans(t *testing.T) {
	for _, secs := range []int{1000, 1001, 3600, 28800, 43201, 65536, 86399, 86400} {
		// The ends lie before, on and behind the first, a middle and the last multiple.
		var ends []int
		for _, middle := range []int{0, secs, 777 * secs, last / secs * secs} {
			ends = append(ends, middle-1, middle, middle+1)
		}
		ends = append(ends, last, last+1)
		for _, from := range ends {
			for _, to := range ends {
				s := api.Span{From: from, To: to}
				if from < 0 || to < from || to > last+1 {
					continue
				}
				count := 0
				for x := 0; x < to; x += secs {
					if x >= from {
						count++
					}
				}
				if n, e := clock.Steps(s, secs); n != count || e != api.OK {
					t.Fatalf("Steps(%v, %d) = %d, %d, not %d", s, secs, n, e, count)
				}
			}
		}
	}
}

func TestStepsRefuses(t *testing.T) {
	badSecs := []int{0, -1, -10, -86400, math.MinInt, 86401, 86402, 172800, last, last + 1, math.MaxInt}
	fine := []api.Span{{}, {From: 5, To: 5}, {From: 0, To: 1}, {From: 0, To: last + 1}, {From: last + 1, To: last + 1}, {From: 10, To: 31}}
	steps := func(s api.Span, secs int) {
		if n, e := clock.Steps(s, secs); n != 0 || e != api.ErrRange {
			t.Errorf("Steps(%v, %d) = %d, %d", s, secs, n, e)
		}
	}
	for _, s := range noTimes() {
		for _, secs := range append(badSecs, 1, 10, 86400) {
			steps(s, secs)
		}
	}
	for _, s := range fine {
		for _, secs := range badSecs {
			steps(s, secs)
		}
	}
}

// P5.6

func TestNextExamples(t *testing.T) {
	for _, c := range []struct {
		name           string
		t, shift, next int
	}{
		{"the example", 1, 0, 86400},
		{"from the moment itself", 0, 0, 0}, {"from the beginning of shift 1", 28800, 1, 28800}, {"from the beginning of shift 2", 57600, 2, 57600}, {"from the beginning of day 1", 86400, 0, 86400},
		{"later on the day", 0, 1, 28800}, {"the last shift of the day", 0, 2, 57600}, {"one second before", 28799, 1, 28800}, {"one second too late", 28801, 1, 115200}, {"the last second of a day", 86399, 0, 86400}, {"the last second of a day, shift 2", 86399, 2, 144000}, {"one second before shift 2", 57599, 2, 57600}, {"one second too late for shift 2", 57601, 2, 144000}, {"on another day", 342309, 2, 403200},
		{"the last shift 0", 2147385601, 0, 2147472000}, {"the last shift 0 from its moment", 2147472000, 0, 2147472000}, {"the last shift 1 from its moment", 2147414400, 1, 2147414400}, {"the last shift 2 from its moment", 2147443200, 2, 2147443200}, {"the last shift 2", 2147443199, 2, 2147443200}, {"the last shift 0 from the last second before", 2147471999, 0, 2147472000},
	} {
		if next, e := clock.Next(c.t, c.shift); next != c.next || e != api.OK {
			t.Errorf("%s: Next(%d, %d) = %d, %d, not %d", c.name, c.t, c.shift, next, e, c.next)
		}
	}
}

// The moments are gone through from the last one back, so that the last beginning that was seen is the next one.
func TestNext(t *testing.T) {
	for _, days := range [][2]int{{0, 2}, {12345, 12346}, {lastDay - 2, lastDay}} {
		next := [3]int{-1, -1, -1}
		known := days[1] == lastDay
		for x := min((days[1]+1)*86400-1, last); x >= days[0]*86400; x-- {
			if x%28800 == 0 {
				next[x/28800%3] = x
			}
			for shift, want := range next {
				y, e := clock.Next(x, shift)
				if want >= 0 && (y != want || e != api.OK) || want < 0 && known && (y != 0 || e != api.ErrNone) {
					t.Fatalf("Next(%d, %d) = %d, %d, not %d", x, shift, y, e, want)
				}
			}
		}
	}
}

func TestNextReturnsNoneBehindTheLastShift(t *testing.T) {
	for shift, begin := range []int{2147472000, 2147414400, 2147443200} {
		for _, x := range []int{begin + 1, begin + 2, begin + 5000, last - 1, last} {
			if next, e := clock.Next(x, shift); next != 0 || e != api.ErrNone {
				t.Errorf("Next(%d, %d) = %d, %d", x, shift, next, e)
			}
		}
	}
}

func TestNextRefuses(t *testing.T) {
	badShifts := []int{-1, -2, -3, 3, 4, 5, 28800, math.MinInt, math.MinInt + 1, math.MaxInt - 1, math.MaxInt}
	next := func(x int, shift int, want api.Errno) {
		if y, e := clock.Next(x, shift); y != 0 || e != want {
			t.Errorf("Next(%d, %d) = %d, %d, not %d", x, shift, y, e, want)
		}
	}
	for _, x := range noMoments() {
		for _, shift := range append(badShifts, 0, 1, 2) {
			next(x, shift, api.ErrRange)
		}
	}
	// At the last of these moments, no shift begins any more.
	for _, x := range []int{0, 1, 28799, 28800, 86400, 2147472000, 2147472001, last} {
		for _, shift := range badShifts {
			next(x, shift, api.ErrKind)
		}
	}
}

// P5.7

// spans takes the ends of adjacent spans, each once.
func spans(ends ...int) []api.Span {
	var l []api.Span
	for i := 1; i < len(ends); i++ {
		l = append(l, api.Span{From: ends[i-1], To: ends[i]})
	}
	return l
}

func TestPartsExamples(t *testing.T) {
	for _, c := range []struct {
		name string
		s    api.Span
		l    []api.Span
	}{
		{"the example", api.Span{From: 28000, To: 30000}, spans(28000, 28800, 30000)},
		{"nothing at 0", api.Span{}, nil}, {"nothing", api.Span{From: 5, To: 5}, nil}, {"nothing at the beginning of a shift", api.Span{From: 28800, To: 28800}, nil}, {"nothing at MaxTime", api.Span{From: last, To: last}, nil}, {"nothing behind MaxTime", api.Span{From: last + 1, To: last + 1}, nil},
		{"one second", api.Span{From: 0, To: 1}, spans(0, 1)}, {"within a shift", api.Span{From: 3, To: 9}, spans(3, 9)}, {"a shift", api.Span{From: 0, To: 28800}, spans(0, 28800)}, {"the second shift", api.Span{From: 28800, To: 57600}, spans(28800, 57600)}, {"up to the end of a shift", api.Span{From: 28799, To: 28800}, spans(28799, 28800)}, {"from the beginning of a shift", api.Span{From: 28800, To: 28801}, spans(28800, 28801)},
		{"one second of two shifts each", api.Span{From: 28799, To: 28801}, spans(28799, 28800, 28801)}, {"a day", api.Span{From: 0, To: 86400}, spans(0, 28800, 57600, 86400)}, {"a day from within a shift", api.Span{From: 7, To: 86407}, spans(7, 28800, 57600, 86400, 86407)}, {"over midnight", api.Span{From: 57599, To: 86401}, spans(57599, 57600, 86400, 86401)},
		{"the last second", api.Span{From: last, To: last + 1}, spans(last, last+1)}, {"the last shift", api.Span{From: 2147472000, To: last + 1}, spans(2147472000, last+1)}, {"the last two shifts", api.Span{From: 2147471999, To: last + 1}, spans(2147471999, 2147472000, last+1)}, {"up to the last second", api.Span{From: 2147471999, To: last}, spans(2147471999, 2147472000, last)},
	} {
		if l, e := clock.Parts(c.s); !slices.Equal(l, c.l) || e != api.OK {
			t.Errorf("%s: Parts(%v) = %v, %d, not %v", c.name, c.s, l, e, c.l)
		}
	}
}

// intersections compares s with the shifts one after the other.
func intersections(s api.Span) []api.Span {
	var l []api.Span
	// Two shifts before s are enough to see that shifts without a part of it are left out.
	for begin := max(s.From/28800-2, 0) * 28800; begin < s.To+57600; begin += 28800 {
		part := api.Span{From: max(s.From, begin), To: min(s.To, begin+28800)}
		if part.From < part.To {
			l = append(l, part)
		}
	}
	return l
}

func checkParts(t *testing.T, s api.Span) {
	t.Helper()
	want, wantE := intersections(s), api.OK
	if len(want) > 256 {
		want, wantE = nil, api.ErrFull
	}
	if l, e := clock.Parts(s); !slices.Equal(l, want) || e != wantE {
		t.Errorf("Parts(%v) = %v, %d, not %v, %d", s, l, e, want, wantE)
	}
}

func TestParts(t *testing.T) {
	windows(40, func(s api.Span) { checkParts(t, s) })
	for _, from := range edges() {
		for _, length := range []int{0, 1, 2, 3, 28799, 28800, 28801, 57599, 57600, 57601, 86399, 86400, 86401, 1000000} {
			checkParts(t, api.Span{From: from, To: min(from+length, last+1)})
		}
	}
}

// The spans have ends around those of 254 to 257 shifts and of many more, from the first shift, another one, and up to the last one.
func TestPartsOfLongSpans(t *testing.T) {
	for _, shift := range []int{0, 1, 1000, 74565 - 257, 74565 - 256, 74565 - 255, 74565 - 254} {
		for _, shifts := range []int{253, 254, 255, 256, 257, 1000} {
			for _, a := range []int{-1, 0, 1, 28799} {
				for _, b := range []int{-28799, -1, 0, 1} {
					s := api.Span{From: max(shift*28800+a, 0), To: (shift+shifts)*28800 + b}
					if s.To > last+1 {
						s.To = last + 1
					}
					checkParts(t, s)
				}
			}
		}
	}
}

func TestPartsLimit(t *testing.T) {
	const full = 256 * 28800
	for _, s := range []api.Span{
		{From: 0, To: full}, {From: 28800, To: 28800 + full}, {From: 1, To: full}, {From: 0, To: full - 28799}, {From: 28799, To: full}, {From: 2147472000 - 255*28800, To: last + 1}, {From: 2147472000 - 254*28800 - 1, To: last + 1},
	} {
		l, e := clock.Parts(s)
		if e != api.OK || len(l) < 255 || len(l) > 256 || l[0].From != s.From || l[len(l)-1].To != s.To {
			t.Errorf("Parts(%v) = %d parts, %d", s, len(l), e)
		}
	}
	for _, s := range []api.Span{
		{From: 0, To: full + 1}, {From: 28799, To: 28800 + 255*28800 + 1}, {From: 28799, To: 28799 + full}, {From: 28801, To: 28801 + full}, {From: 0, To: last}, {From: 0, To: last + 1}, {From: 1, To: last + 1}, {From: 2147472000 - 255*28800 - 1, To: last + 1}, {From: 2147472000 - 256*28800, To: last + 1}, {From: 2147472000 - 256*28800, To: 2147472001},
	} {
		if l, e := clock.Parts(s); len(l) != 0 || e != api.ErrFull {
			t.Errorf("Parts(%v) = %d parts, %d", s, len(l), e)
		}
	}
}

func TestPartsRefuses(t *testing.T) {
	// Many of these spans would also have too many parts.
	for _, s := range noTimes() {
		if l, e := clock.Parts(s); len(l) != 0 || e != api.ErrRange {
			t.Errorf("Parts(%v) = %d parts, %d", s, len(l), e)
		}
	}
}

func TestPartsAreNewMemory(t *testing.T) {
	for _, s := range []api.Span{{From: 3, To: 3}, {From: 3, To: 9}, {From: 7, To: 86407}, {From: 0, To: 256 * 28800}, {From: 0, To: last}} {
		l, _ := clock.Parts(s)
		kept := slices.Clone(l)
		spoiled, _ := clock.Parts(s)
		spoiled = spoiled[:cap(spoiled)]
		for i := range spoiled {
			spoiled[i] = api.Span{From: -5, To: -6}
		}
		again, _ := clock.Parts(s)
		if !slices.Equal(l, kept) || !slices.Equal(again, kept) {
			t.Errorf("Parts(%v) share memory", s)
		}
	}
}

// P5.8

func checkRoundTrip(t *testing.T, x int) {
	t.Helper()
	s, e := clock.Format(x)
	if e != api.OK {
		t.Fatalf("Format(%d) = %d", x, e)
	}
	checkParse(t, s, x, api.OK)
}

func TestParseOfFormat(t *testing.T) {
	for _, x := range edges() {
		checkRoundTrip(t, x)
	}
	// A step that has no divisor in common with a day, so that all fields change.
	for x := 0; x <= last; x += 10007 {
		checkRoundTrip(t, x)
	}
}

// The strings are made of the fields that a form has and of others, with and without their digits and with several separators.
func TestFormatOfParse(t *testing.T) {
	accepted := 0
	two := []string{"00", "07", "7", "23", "24", "59", "60", "007", "-1", ""}
	for _, day := range []string{"0", "1", "01", "24855", "24856", "", "-1", "+1", "99999999999999999999"} {
		for _, hour := range two {
			for _, minute := range two {
				for _, second := range two {
					for _, space := range []string{" ", "  ", ":", ""} {
						s := day + space + hour + ":" + minute + ":" + second
						x, e := clock.Parse(s)
						if e != api.OK {
							continue
						}
						accepted++
						if form, e := clock.Format(x); form != s || e != api.OK {
							t.Fatalf("Format(Parse(%q)) = %q, %d", s, form, e)
						}
					}
				}
			}
		}
	}
	// Days 0 and 1 with 3 hours, 5 minutes and 5 seconds, and hour 00 of day 24855.
	if accepted != 2*3*5*5+5*5 {
		t.Errorf("Parse accepts %d strings", accepted)
	}
}

func TestPartsAddUp(t *testing.T) {
	for _, from := range edges() {
		for _, length := range []int{0, 1, 5, 28799, 28800, 28801, 100000, 255 * 28800} {
			s := api.Span{From: from, To: min(from+length, last+1)}
			l, e := clock.Parts(s)
			if e != api.OK {
				t.Fatalf("Parts(%v) = %d", s, e)
			}
			sum, at := 0, s.From
			for _, part := range l {
				day, shift, e := clock.Shift(part.From)
				lastDay, lastShift, lastE := clock.Shift(part.To - 1)
				if part.From != at || part.To <= part.From || day != lastDay || shift != lastShift || e != api.OK || lastE != api.OK {
					t.Fatalf("Parts(%v) contain %v", s, part)
				}
				sum += part.To - part.From
				at = part.To
			}
			if sum != s.To-s.From || at != s.To {
				t.Fatalf("Parts(%v) add up to %d and end at %d", s, sum, at)
			}
		}
	}
}
