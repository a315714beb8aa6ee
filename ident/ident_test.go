package ident_test

import (
	"iter"
	"math"
	"regexp"
	"slices"
	"strconv"
	"strings"
	"testing"

	"papermill/api"
	"papermill/ident"
)

const (
	letters = "ABCDEFGHIJKLMNOPQRSTUVWXYZabcdefghijklmnopqrstuvwxyz"
	others  = "0123456789-_."
	maxName = 32
	full    = 512
)

// form says a second time what an identifier is.
var form = regexp.MustCompile(`\A[A-Za-z][A-Za-z0-9._-]{0,31}\z`)

// noIdentifiers are refused, each for another reason.
func noIdentifiers() []string {
	return []string{
		"", " ", "2a", "-a", "_a", ".a", "-", "_", ".", "0", "9", "a b", " a", "a ", "a/b", "a:", "a@", "[a", "a^", "`a", "a{", "a,b", "a+", "\"a\"", "a\n", "\na", "a\x00", "\x00", "\x00a", "a\t", "a\r\n", "a\x7f",
		"é", "aé", "éa", "Ä", "ß", "λ", "\u0430", "b\u0430", "\uff21", "a\uff11", "a\u0663", "\u212a", "a\u212a", "\u017f", "a\u017f", "a\u2010b", "a\u2013b", "a\u0301", "\ufeffa", "纸", "a📜", "\xff", "a\xff", "\xc3", "a\xc3", "\xa9", "a\x80", "\xe9", "a\xe1",
		strings.Repeat("b", maxName+1), strings.Repeat("b", maxName) + "-", strings.Repeat("b", maxName) + "\x00", strings.Repeat("é", maxName/2), strings.Repeat("b", 256), strings.Repeat("b", 256+maxName), strings.Repeat("b", 1<<20),
	}
}

// names makes n different identifiers; many of them begin with the same bytes.
func names(n int) []string {
	l := make([]string, n)
	for i := range l {
		l[i] = "n" + strconv.Itoa(i)
	}
	return l
}

// with returns a copy of l with s at the position i.
func with(l []string, i int, s string) []string {
	l = slices.Clone(l)
	l[i] = s
	return l
}

// made returns New(l...), which must succeed.
func made(t *testing.T, l ...string) *ident.Table {
	t.Helper()
	table, e := ident.New(l...)
	if table == nil || e != api.OK {
		t.Fatalf("New of %d names = %v, %d", len(l), table, e)
	}
	return table
}

// pair is what All yields.
type pair struct {
	index int
	name  string
}

func collect(all iter.Seq2[int, string]) []pair {
	var l []pair
	for i, name := range all {
		l = append(l, pair{i, name})
	}
	return l
}

func pairs(l []string) []pair {
	var p []pair
	for i, name := range l {
		p = append(p, pair{i, name})
	}
	return p
}

// neighbours are strings that are not the name, but much like it.
func neighbours(name string) []string {
	return []string{name + "0", name + "-", name + "\x00", name + " ", " " + name, name[:len(name)-1], name[1:], strings.ToUpper(name), strings.ToLower(name), name + name, "x" + name}
}

// checkTable checks everything that a table says about itself.
func checkTable(t *testing.T, table *ident.Table, want []string) {
	t.Helper()
	if n := table.Len(); n != len(want) {
		t.Fatalf("Len() = %d, not %d", n, len(want))
	}
	there := map[string]bool{}
	for i, name := range want {
		there[name] = true
		if s, ok := table.Name(i); s != name || !ok {
			t.Fatalf("Name(%d) = %q, %t, not %q", i, s, ok, name)
		}
		if k, ok := table.Find(name); k != i || !ok {
			t.Fatalf("Find(%q) = %d, %t, not %d", name, k, ok, i)
		}
	}
	missing := append(noIdentifiers(), "missing", "Z")
	for _, name := range want {
		missing = append(missing, neighbours(name)...)
	}
	for _, s := range missing {
		if i, ok := table.Find(s); !there[s] && (i != 0 || ok) {
			t.Fatalf("Find(%q) = %d, %t", s, i, ok)
		}
	}
	for _, i := range noIndices(len(want)) {
		if s, ok := table.Name(i); s != "" || ok {
			t.Fatalf("Name(%d) = %q, %t", i, s, ok)
		}
	}
	if l := collect(table.All()); !slices.Equal(l, pairs(want)) {
		t.Fatalf("All() yields %v, not %v", l, want)
	}
}

// noIndices are below 0 or at least n.
func noIndices(n int) []int {
	return []int{-1, -2, -n, -n - 1, -full, -1 << 32, math.MinInt, math.MinInt + 1, n, n + 1, n + full, 1 << 32, 1<<32 + n, 1 << 62, math.MaxInt - 1, math.MaxInt}
}

// P6.1

func checkValid(t *testing.T, s string, want bool) {
	t.Helper()
	if ident.Valid(s) != want {
		t.Errorf("Valid(%.80q) = %t", s, !want)
	}
}

func TestValidExamples(t *testing.T) {
	for _, s := range []string{"pine", "P-2.b_7", "a", "z", "A", "Z", "a-", "a_", "a.", "a0", "a9", "a--", "a..b", "Pine", "PINE", "x-1.2_3", strings.Repeat("b", maxName), "A" + strings.Repeat(".", maxName-1), letters[:maxName], letters[len(letters)-maxName:], "a" + others} {
		checkValid(t, s, true)
	}
	for _, s := range noIdentifiers() {
		checkValid(t, s, false)
	}
}

// Each byte stands at each position of strings of all lengths up to one byte too many.
func TestValidBytes(t *testing.T) {
	for b := range 256 {
		first := strings.IndexByte(letters, byte(b)) >= 0
		later := first || strings.IndexByte(others, byte(b)) >= 0
		for length := 1; length <= maxName+1; length++ {
			for i := range length {
				s := []byte(strings.Repeat("q", length))
				s[i] = byte(b)
				checkValid(t, string(s), length <= maxName && (first || later && i > 0))
			}
		}
	}
}

func TestValidLengths(t *testing.T) {
	for _, s := range []string{"a", "Zz", "Q0", "m-_.", letters, "a" + others} {
		for length := range 600 {
			long := strings.Repeat(s, length/len(s)+1)[:length]
			checkValid(t, long, 1 <= length && length <= maxName)
		}
		for _, length := range []int{1 << 16, 1<<16 + 1, 1<<16 + maxName, 1<<20 + 5} {
			checkValid(t, strings.Repeat(s, length/len(s)+1)[:length], false)
		}
	}
}

// The strings are made of bytes at both ends of each permitted range, the bytes next to them, and bytes of other kinds.
func TestValidShortStrings(t *testing.T) {
	bytes := "@AZ[`az{/09:-,._^ \x00\n\r\x1f\x7f\x80\xc3\xa9\xe9\xff"
	short := []string{""}
	for begin, length := 0, 1; length <= 3; length++ {
		end := len(short)
		for _, s := range short[begin:end] {
			for i := range len(bytes) {
				short = append(short, s+bytes[i:i+1])
			}
		}
		begin = end
	}
	for _, s := range short {
		checkValid(t, s, form.MatchString(s))
	}
}

// Among the runes are all letters and digits that look like those of ASCII or fold to them; they stand alone and behind a letter.
func TestValidRunes(t *testing.T) {
	for r := rune(0x80); r < 0x3000; r++ {
		checkValid(t, string(r), false)
		checkValid(t, "a"+string(r), false)
	}
	for r := rune(0xff00); r < 0x10000; r++ {
		checkValid(t, string(r), false)
		checkValid(t, "a"+string(r), false)
	}
}

// P6.2

func checkNew(t *testing.T, l []string, want api.Errno) {
	t.Helper()
	kept := slices.Clone(l)
	table, e := ident.New(l...)
	if e != want || (table != nil) != (e == api.OK) {
		t.Fatalf("New of %d names (%.60q) = %v, %d, not %d", len(l), l, table, e, want)
	}
	if !slices.Equal(l, kept) {
		t.Fatalf("New changed %.60q to %.60q", kept, l)
	}
	if e == api.OK {
		checkTable(t, table, kept)
	}
}

func TestNewExamples(t *testing.T) {
	for _, l := range [][]string{
		nil, {}, {"birch", "pine"}, {"pine", "birch"}, {"a"}, {"P-2.b_7"}, {"a", "A"}, {"pine", "Pine", "PINE", "pINE"}, {"a", "aa", "aaa", "a-", "a.", "a_", "a0"}, {"zebra", "yak", "ant"},
		{strings.Repeat("b", maxName), strings.Repeat("b", maxName-1), strings.Repeat("b", maxName-1) + "B", strings.Repeat("b", maxName-1) + "c", "B" + strings.Repeat("b", maxName-1)},
	} {
		checkNew(t, l, api.OK)
	}
	for _, l := range [][]string{
		{"a", "a", "-"}, {"-", "a", "a"}, {"a", "-", "a"}, {"-"}, {""}, {"", ""}, {"-", "-"}, {"a", ""}, {"pine", "2pine"},
	} {
		checkNew(t, l, api.ErrName)
	}
	for _, l := range [][]string{
		{"a", "a"}, {"a", "b", "a"}, {"b", "a", "a"}, {"a", "a", "b"}, {"a", "a", "a"}, {"pine", "Pine", "pine"}, {strings.Repeat("b", maxName), strings.Repeat("b", maxName)},
	} {
		checkNew(t, l, api.ErrTwice)
	}
}

// expected looks at the names once for each error.
func expected(l []string) api.Errno {
	if len(l) > full {
		return api.ErrFull
	}
	if slices.ContainsFunc(l, func(s string) bool { return !form.MatchString(s) }) {
		return api.ErrName
	}
	for i, s := range l {
		if slices.Contains(l[:i], s) {
			return api.ErrTwice
		}
	}
	return api.OK
}

func TestNewOfShortLists(t *testing.T) {
	lists := [][]string{nil}
	for begin, length := 0, 1; length <= 5; length++ {
		end := len(lists)
		for _, l := range lists[begin:end] {
			for _, s := range []string{"a", "A", "ab", "-", ""} {
				lists = append(lists, append(slices.Clone(l), s))
			}
		}
		begin = end
	}
	for _, l := range lists {
		checkNew(t, l, expected(l))
	}
}

func TestNewRefusesEachKindOfName(t *testing.T) {
	for _, s := range noIdentifiers() {
		checkNew(t, []string{s}, api.ErrName)
		checkNew(t, []string{"a", s, "b"}, api.ErrName)
	}
}

func TestNewLimit(t *testing.T) {
	for _, n := range []int{0, 1, 2, 3, 255, 256, 257, full - 1, full} {
		checkNew(t, names(n), api.OK)
	}
	for _, n := range []int{full + 1, full + 2, 2 * full, 1 << 16, 1<<16 + 1, 1 << 20} {
		checkNew(t, names(n), api.ErrFull)
	}
}

func TestNewErrorsInOrder(t *testing.T) {
	places := []int{0, 1, 2, 255, 256, full - 2, full - 1}
	for _, i := range places {
		checkNew(t, with(names(full), i, "-"), api.ErrName)
		checkNew(t, with(names(full+1), i, "-"), api.ErrFull)
		for _, k := range places {
			if i == k {
				continue
			}
			twins := with(with(names(full), i, "twin"), k, "twin")
			checkNew(t, twins, api.ErrTwice)
			checkNew(t, append(slices.Clone(twins), "more"), api.ErrFull)
			for _, m := range places {
				if m != i && m != k {
					checkNew(t, with(twins, m, "2a"), api.ErrName)
					checkNew(t, append(with(twins, m, "2a"), "more"), api.ErrFull)
				}
			}
		}
	}
	checkNew(t, append(names(full), "-"), api.ErrFull)
	checkNew(t, append(names(full), "n0"), api.ErrFull)
	checkNew(t, make([]string, full+1), api.ErrFull)
	checkNew(t, make([]string, full), api.ErrName)
	checkNew(t, slices.Repeat([]string{"a"}, full+1), api.ErrFull)
	checkNew(t, slices.Repeat([]string{"a"}, full), api.ErrTwice)
}

// The slice has room for more names than it is given with, so that a table that kept it would write there.
func TestNewKeepsNothingOfTheSlice(t *testing.T) {
	for _, n := range []int{0, 1, 2, 7, 64, full - 2} {
		given, want := names(n+2), names(n)
		a := made(t, given[:n]...)
		b := made(t, given[:n]...)
		if i, e := a.Add("added"); i != n || e != api.OK {
			t.Fatalf("Add to %d names = %d, %d", n, i, e)
		}
		if !slices.Equal(given, names(n+2)) {
			t.Fatalf("Add to %d names changed the slice given to New", n)
		}
		for i := range given {
			given[i] = "spoiled" + strconv.Itoa(i)
		}
		checkTable(t, a, append(slices.Clone(want), "added"))
		checkTable(t, b, want)
	}
}

// P6.3

// checkAdd adds a name to a table that has the names of want, and returns what it has then.
func checkAdd(t *testing.T, table *ident.Table, want []string, s string, wantE api.Errno) []string {
	t.Helper()
	i, e := table.Add(s)
	if e != wantE || e == api.OK && i != len(want) || e != api.OK && i != 0 {
		t.Fatalf("Add(%.60q) to %d names = %d, %d, not %d", s, len(want), i, e, wantE)
	}
	if e == api.OK {
		want = append(slices.Clone(want), s)
	}
	return want
}

func TestAddExamples(t *testing.T) {
	want := []string{"birch", "pine"}
	table := made(t, want...)
	want = checkAdd(t, table, want, "pine", api.ErrTwice)
	want = checkAdd(t, table, want, "", api.ErrName)
	want = checkAdd(t, table, want, "oak", api.OK)
	checkTable(t, table, []string{"birch", "pine", "oak"})
	for _, s := range []string{"Oak", "OAK", "oa", "o", "oak-", "oak.", "oak_", "oak0", "aspen", "zebrano", strings.Repeat("o", maxName), strings.Repeat("o", maxName-1)} {
		want = checkAdd(t, table, want, s, api.OK)
		checkTable(t, table, want)
	}
	for _, s := range want {
		checkAdd(t, table, want, s, api.ErrTwice)
	}
	checkTable(t, table, want)
}

func TestAddUpToTheLimit(t *testing.T) {
	for _, n := range []int{0, 1, 100, full - 1, full} {
		l := names(full)
		table := made(t, l[:n]...)
		for i := n; i < full; i++ {
			checkAdd(t, table, l[:i], l[i], api.OK)
		}
		for _, s := range []string{"other", "a", "N0", "n512", "n0-", strings.Repeat("b", maxName)} {
			checkAdd(t, table, l, s, api.ErrFull)
		}
		checkTable(t, table, l)
	}
}

func TestAddRefuses(t *testing.T) {
	for _, n := range []int{0, 1, 2, 100, full - 1, full} {
		l := names(n)
		table := made(t, l...)
		for _, s := range noIdentifiers() {
			checkAdd(t, table, l, s, api.ErrName)
		}
		for _, s := range l {
			checkAdd(t, table, l, s, api.ErrTwice)
		}
		if n == full {
			checkAdd(t, table, l, "other", api.ErrFull)
		}
		checkTable(t, table, l)
	}
}

// What was refused does not count as a name, neither twice nor for the limit.
func TestAddAfterRefusals(t *testing.T) {
	table, want := made(t), []string(nil)
	for i, s := range names(full) {
		want = checkAdd(t, table, want, "-", api.ErrName)
		want = checkAdd(t, table, want, s, api.OK)
		want = checkAdd(t, table, want, s, api.ErrTwice)
		want = checkAdd(t, table, want, "n0", api.ErrTwice)
		if len(want) != i+1 {
			t.Fatalf("%d names after %d were added", len(want), i+1)
		}
	}
	checkAdd(t, table, want, "other", api.ErrFull)
	checkAdd(t, table, want, "other", api.ErrFull)
	checkTable(t, table, want)
}

// The names are added in an order that follows no alphabet, and many of them are tried again.
func TestAddAsToAList(t *testing.T) {
	for step := 1; step < 12; step++ {
		table, want := made(t), []string(nil)
		x := step
		for range 1500 {
			x = (x*1103515245 + 12345*step) % (1 << 31)
			s := "x" + strconv.Itoa(x>>16%700)
			if x>>8%20 == 0 {
				s = strconv.Itoa(x)
			}
			wantE := api.OK
			if !form.MatchString(s) {
				wantE = api.ErrName
			} else if slices.Contains(want, s) {
				wantE = api.ErrTwice
			} else if len(want) == full {
				wantE = api.ErrFull
			}
			want = checkAdd(t, table, want, s, wantE)
		}
		checkTable(t, table, want)
	}
}

func TestTablesAreIndependent(t *testing.T) {
	l := names(5)
	a, b, c := made(t, l...), made(t, l...), made(t)
	inA := checkAdd(t, a, l, "only-a", api.OK)
	inB := checkAdd(t, b, l, "only-b", api.OK)
	inB = checkAdd(t, b, inB, "only-a", api.OK)
	checkTable(t, a, inA)
	checkTable(t, b, inB)
	checkTable(t, c, nil)
	inC := checkAdd(t, c, nil, "only-b", api.OK)
	checkTable(t, a, inA)
	checkTable(t, b, inB)
	checkTable(t, c, inC)
	for i := len(inA); i < full; i++ {
		inA = checkAdd(t, a, inA, "a"+strconv.Itoa(i), api.OK)
	}
	checkAdd(t, a, inA, "one-more", api.ErrFull)
	inB = checkAdd(t, b, inB, "one-more", api.OK)
	checkTable(t, a, inA)
	checkTable(t, b, inB)
}

// P6.4

func TestFind(t *testing.T) {
	table := made(t, "birch", "pine", "Pine", "pin", "p", "pine-2")
	for _, c := range []struct {
		s     string
		index int
		ok    bool
	}{
		{"birch", 0, true}, {"pine", 1, true}, {"Pine", 2, true}, {"pin", 3, true}, {"p", 4, true}, {"pine-2", 5, true},
		{"PINE", 0, false}, {"Birch", 0, false}, {"P", 0, false}, {"pi", 0, false}, {"pine-", 0, false}, {"pine-22", 0, false}, {"oak", 0, false}, {"ine", 0, false},
		{"", 0, false}, {"-", 0, false}, {" pine", 0, false}, {"pine ", 0, false}, {"pine\n", 0, false}, {"pine\x00", 0, false}, {"\xff", 0, false}, {strings.Repeat("p", 1000), 0, false},
	} {
		if i, ok := table.Find(c.s); i != c.index || ok != c.ok {
			t.Errorf("Find(%q) = %d, %t, not %d, %t", c.s, i, ok, c.index, c.ok)
		}
	}
}

func TestName(t *testing.T) {
	table := made(t, "birch", "pine", "oak")
	for _, c := range []struct {
		i    int
		name string
		ok   bool
	}{
		{0, "birch", true}, {1, "pine", true}, {2, "oak", true},
		{-1, "", false}, {3, "", false}, {4, "", false}, {-3, "", false}, {full, "", false}, {1 << 32, "", false}, {1<<32 + 1, "", false}, {-1 << 32, "", false}, {math.MinInt, "", false}, {math.MinInt + 1, "", false}, {math.MaxInt - 1, "", false}, {math.MaxInt, "", false},
	} {
		if s, ok := table.Name(c.i); s != c.name || ok != c.ok {
			t.Errorf("Name(%d) = %q, %t, not %q, %t", c.i, s, ok, c.name, c.ok)
		}
	}
}

func TestNameOfFullAndEmptyTables(t *testing.T) {
	for _, n := range []int{0, 1, full - 1, full} {
		table := made(t, names(n)...)
		for i := -3; i < full+3; i++ {
			want := ""
			if 0 <= i && i < n {
				want = "n" + strconv.Itoa(i)
			}
			if s, ok := table.Name(i); s != want || ok != (want != "") {
				t.Errorf("Name(%d) of %d names = %q, %t", i, n, s, ok)
			}
		}
	}
}

func TestLen(t *testing.T) {
	table := made(t, "birch", "pine")
	for i, c := range []struct {
		s   string
		len int
	}{{"oak", 3}, {"oak", 3}, {"-", 3}, {"Oak", 4}, {"", 4}, {"birch", 4}, {"ash", 5}} {
		table.Add(c.s)
		if n := table.Len(); n != c.len {
			t.Errorf("%d: Len() = %d after Add(%q), not %d", i, n, c.s, c.len)
		}
	}
	for n := range full + 1 {
		if k := made(t, names(n)...).Len(); k != n {
			t.Errorf("Len() = %d, not %d", k, n)
		}
	}
}

// Asking is not adding.
func TestFindAndNameChangeNothing(t *testing.T) {
	table := made(t, names(3)...)
	for _, s := range append(noIdentifiers(), "other", "n0") {
		table.Find(s)
	}
	for _, i := range append(noIndices(3), 0, 1, 2) {
		table.Name(i)
	}
	checkTable(t, table, names(3))
	checkAdd(t, table, names(3), "other", api.OK)
}

// P6.5

func checkAll(t *testing.T, all iter.Seq2[int, string], want []string) {
	t.Helper()
	if all == nil {
		t.Fatal("All() = nil")
	}
	if l := collect(all); !slices.Equal(l, pairs(want)) {
		t.Fatalf("All() yields %v, not %v", l, want)
	}
}

func TestAll(t *testing.T) {
	checkAll(t, made(t).All(), nil)
	for _, l := range [][]string{{"a"}, {"pine", "birch", "oak"}, {"z", "y", "x", "a", "b"}, {"a", "A", "aa"}, names(full)} {
		table := made(t, l...)
		for range 3 {
			checkAll(t, table.All(), l)
		}
		all := table.All()
		for range 3 {
			checkAll(t, all, l)
		}
	}
}

// All does not run through a loop here, which would hide a call after the stop.
func TestAllStops(t *testing.T) {
	for _, n := range []int{1, 2, 3, full} {
		all := made(t, names(n)...).All()
		for stop := range min(n, 5) {
			var l []pair
			all(func(i int, name string) bool {
				l = append(l, pair{i, name})
				return i != stop
			})
			if !slices.Equal(l, pairs(names(stop+1))) {
				t.Errorf("All() of %d names, stopped at %d, yields %v", n, stop, l)
			}
			checkAll(t, all, names(n))
		}
	}
}

func TestAllWithinAll(t *testing.T) {
	l := names(4)
	all := made(t, l...).All()
	count := 0
	for i, outer := range all {
		checkAll(t, all, l)
		for k, inner := range all {
			if outer != l[i] || inner != l[k] {
				t.Errorf("%d, %d: %q, %q", i, k, outer, inner)
			}
			count++
			if k == i {
				break
			}
		}
	}
	if count != 1+2+3+4 {
		t.Errorf("All() within All() yields %d names", count)
	}
}

func TestAllWhileNamesAreAdded(t *testing.T) {
	for _, n := range []int{1, 2, 3, 4, 5, 8, 16, 100, 255} {
		want := names(n)
		table := made(t, want...)
		all := table.All()
		var l []pair
		for i, name := range all {
			l = append(l, pair{i, name})
			want = checkAdd(t, table, want, "late"+strconv.Itoa(i), api.OK)
		}
		if !slices.Equal(l, pairs(names(n))) {
			t.Errorf("All() of %d names, to which others are added, yields %v", n, l)
		}
		checkAll(t, all, names(n))
		checkTable(t, table, want)
	}
}

// Iterators of all sizes are made while a table grows, and run when it is full.
func TestAllBeforeNamesAreAdded(t *testing.T) {
	l := names(full)
	table := made(t)
	var alls []iter.Seq2[int, string]
	for i, s := range l {
		alls = append(alls, table.All())
		checkAdd(t, table, l[:i], s, api.OK)
	}
	for n, all := range alls {
		checkAll(t, all, l[:n])
	}
	checkAll(t, table.All(), l)
}

// P6.6

func TestNilTable(t *testing.T) {
	var table *ident.Table
	for _, s := range append(noIdentifiers(), "a", "pine", strings.Repeat("b", maxName)) {
		if i, e := table.Add(s); i != 0 || e != api.ErrNil {
			t.Errorf("Add(%.60q) = %d, %d", s, i, e)
		}
		if i, ok := table.Find(s); i != 0 || ok {
			t.Errorf("Find(%.60q) = %d, %t", s, i, ok)
		}
	}
	for _, i := range []int{0, 1, -1, full, math.MinInt, math.MaxInt} {
		if s, ok := table.Name(i); s != "" || ok {
			t.Errorf("Name(%d) = %q, %t", i, s, ok)
		}
	}
	if n := table.Len(); n != 0 {
		t.Errorf("Len() = %d", n)
	}
	all := table.All()
	checkAll(t, all, nil)
	checkAll(t, all, nil)
}

// P6.7

func checkInverse(t *testing.T, table *ident.Table, candidates []string) {
	t.Helper()
	for i := -3; i < table.Len()+3; i++ {
		s, ok := table.Name(i)
		if ok != (0 <= i && i < table.Len()) {
			t.Fatalf("Name(%d) of %d names = %q, %t", i, table.Len(), s, ok)
		}
		if k, found := table.Find(s); found != ok || ok && k != i {
			t.Fatalf("Find(%q) = %d, %t, but Name(%d) = %q", s, k, found, i, s)
		}
	}
	found := 0
	for _, s := range candidates {
		i, ok := table.Find(s)
		if !ok {
			continue
		}
		found++
		if name, ok := table.Name(i); name != s || !ok {
			t.Fatalf("Name(%d) = %q, %t, but Find(%q) = %d", i, name, ok, s, i)
		}
	}
	if found != table.Len() {
		t.Fatalf("%d of %d names are found", found, table.Len())
	}
}

func TestInverse(t *testing.T) {
	candidates := append(names(full+100), noIdentifiers()...)
	candidates = append(candidates, "Z", "z", "pine", "Pine", "x")
	for _, n := range []int{0, 1, 2, 10, full - 3} {
		table := made(t, names(n)...)
		checkInverse(t, table, candidates)
		for _, s := range []string{"Z", "-", "z", "n0", "pine", "Pine", "x"} {
			table.Add(s)
			checkInverse(t, table, candidates)
		}
	}
}

// P6.8

func TestAddChangesNoIndex(t *testing.T) {
	// Backwards, so that no order of the names is that of the indices.
	l := names(full)
	slices.Reverse(l)
	table := made(t)
	for n := range l {
		table.Add(l[n])
		for i, s := range l[:n+1] {
			k, ok := table.Find(s)
			name, has := table.Name(i)
			if k != i || !ok || name != s || !has {
				t.Fatalf("after %d names: Find(%q) = %d, %t, Name(%d) = %q, %t", n+1, s, k, ok, i, name, has)
			}
		}
	}
}

// The same names come to a table through New, or the last ones or all of them through Add.
func TestNewIsAddOneByOne(t *testing.T) {
	for _, n := range []int{1, 2, 5, 100, full - 1, full} {
		l := names(n)
		slices.Reverse(l)
		for _, given := range []int{0, 1, n / 2, n - 1, n} {
			table, want := made(t, l[:given]...), l[:given]
			for _, s := range l[given:] {
				want = checkAdd(t, table, want, s, api.OK)
			}
			checkTable(t, table, l)
			wantE := api.OK
			if n == full {
				wantE = api.ErrFull
			}
			want = checkAdd(t, table, want, l[0], api.ErrTwice)
			want = checkAdd(t, table, want, "-", api.ErrName)
			want = checkAdd(t, table, want, "behind", wantE)
			checkTable(t, table, want)
		}
	}
}

// What New refuses is refused by Add, too, when it comes to the name.
func TestNewRefusesWhatAddRefuses(t *testing.T) {
	for _, l := range [][]string{{"a", "b", "a"}, {"a", "A", "-"}, {"a", "b", ""}, append(names(full), "other"), append(names(full-1), "n0")} {
		table := made(t)
		for i, s := range l {
			wantE := api.OK
			if i == len(l)-1 {
				wantE = expected(l)
			}
			checkAdd(t, table, l[:i], s, wantE)
		}
		checkNew(t, l, expected(l))
	}
}
