package field_test

import (
	"math"
	"math/big"
	"regexp"
	"slices"
	"strconv"
	"strings"
	"testing"
	"unsafe"

	"papermill/api"
	"papermill/field"
)

const (
	maxText  = 256
	maxLine  = 1024
	maxMoney = 1000000000000
)

// plain and quoted say a second time what the forms of fields are; quoted has a byte that needs the quotation, or no byte at all.
const (
	plain  = `[!#-\[\]-~]+`
	quoted = `"(?:[!#-\[\]-~]*(?: |\\["\\])(?:[ !#-\[\]-~]|\\["\\])*)?"`
)

var (
	form    = regexp.MustCompile(quoted + `|` + plain)
	aLine   = regexp.MustCompile(`\A(?:(?:` + quoted + `|` + plain + `)(?: (?:` + quoted + `|` + plain + `))*)?\z`)
	aField  = regexp.MustCompile(`\A[ -~]*\z`)
	decimal = regexp.MustCompile(`\A(?:0|-?[1-9][0-9]*)\z`)
)

// formOf needs permitted bytes: of these, strconv puts a backslash before just the same two.
func formOf(s string) string {
	if s != "" && !strings.ContainsAny(s, " \"\\") {
		return s
	}
	return strconv.Quote(s)
}

// wantJoin is what Join must return.
func wantJoin(fields []string) (string, api.Errno) {
	for _, s := range fields {
		if len(s) > maxText {
			return "", api.ErrFull
		}
		if !aField.MatchString(s) {
			return "", api.ErrForm
		}
	}
	var forms []string
	for _, s := range fields {
		forms = append(forms, formOf(s))
	}
	line := strings.Join(forms, " ")
	if len(line) > maxLine {
		return "", api.ErrFull
	}
	return line, api.OK
}

// wantSplit is what Split must return.
func wantSplit(line string) ([]string, api.Errno) {
	if len(line) > maxLine {
		return nil, api.ErrFull
	}
	if !aLine.MatchString(line) {
		return nil, api.ErrForm
	}
	var fields []string
	for _, s := range form.FindAllString(line, -1) {
		if s[0] == '"' {
			s, _ = strconv.Unquote(s)
		}
		if len(s) > maxText {
			return nil, api.ErrForm
		}
		fields = append(fields, s)
	}
	return fields, api.OK
}

// wantLines is what Lines must return.
func wantLines(text string) ([][]string, api.Errno) {
	if text == "" {
		return nil, api.OK
	}
	l := strings.Split(text, "\n")
	if l[len(l)-1] != "" {
		return nil, api.ErrForm
	}
	var lines [][]string
	for _, line := range l {
		if line == "" || strings.HasPrefix(line, "#") {
			continue
		}
		fields, e := wantSplit(line)
		if e != api.OK {
			return nil, e
		}
		lines = append(lines, fields)
	}
	return lines, api.OK
}

// wantNumber is what Number must return.
func wantNumber(s string) (int, api.Errno) {
	if !decimal.MatchString(s) {
		return 0, api.ErrForm
	}
	n, _ := new(big.Int).SetString(s, 10)
	if n.CmpAbs(big.NewInt(maxMoney)) > 0 {
		return 0, api.ErrRange
	}
	return int(n.Int64()), api.OK
}

func sameLines(a [][]string, b [][]string) bool {
	return slices.EqualFunc(a, b, slices.Equal[[]string])
}

// checkJoin also checks that Split returns the fields of the line.
func checkJoin(t *testing.T, fields []string, want string, wantE api.Errno) {
	t.Helper()
	kept := slices.Clone(fields)
	line, e := field.Join(fields...)
	if line != want || e != wantE {
		t.Fatalf("Join of %d fields (%.80q) = %.80q, %d, not %.80q, %d", len(fields), fields, line, e, want, wantE)
	}
	if !slices.Equal(fields, kept) {
		t.Fatalf("Join changed %.80q to %.80q", kept, fields)
	}
	if e != api.OK {
		return
	}
	again, e := field.Split(line)
	if e != api.OK || !slices.Equal(again, fields) {
		t.Fatalf("Split(%.80q) = %.80q, %d, not the fields %.80q", line, again, e, fields)
	}
}

// checkSplit also checks that Join returns the line of the fields.
func checkSplit(t *testing.T, line string, want []string, wantE api.Errno) {
	t.Helper()
	fields, e := field.Split(line)
	if e != wantE || !slices.Equal(fields, want) {
		t.Fatalf("Split of %d bytes (%.80q) = %.80q, %d, not %.80q, %d", len(line), line, fields, e, want, wantE)
	}
	if e != api.OK {
		return
	}
	again, e := field.Join(fields...)
	if e != api.OK || again != line {
		t.Fatalf("Join(%.80q) = %.80q, %d, not the line %.80q", fields, again, e, line)
	}
}

func checkLines(t *testing.T, text string, want [][]string, wantE api.Errno) {
	t.Helper()
	lines, e := field.Lines(text)
	if e != wantE || !sameLines(lines, want) {
		t.Fatalf("Lines of %d bytes (%.80q) = %d lines (%.80q), %d, not %d lines (%.80q), %d", len(text), text, len(lines), lines, e, len(want), want, wantE)
	}
}

func checkNumber(t *testing.T, s string, want int, wantE api.Errno) {
	t.Helper()
	if n, e := field.Number(s); n != want || e != wantE {
		t.Fatalf("Number of %d bytes (%.80q) = %d, %d, not %d, %d", len(s), s, n, e, want, wantE)
	}
}

// expectJoin, expectSplit, expectLines and expectNumber check what is computed a second time.
func expectJoin(t *testing.T, fields ...string) {
	t.Helper()
	want, e := wantJoin(fields)
	checkJoin(t, fields, want, e)
}

func expectSplit(t *testing.T, line string) {
	t.Helper()
	want, e := wantSplit(line)
	checkSplit(t, line, want, e)
}

func expectLines(t *testing.T, text string) {
	t.Helper()
	want, e := wantLines(text)
	checkLines(t, text, want, e)
}

func expectNumber(t *testing.T, s string) {
	t.Helper()
	want, e := wantNumber(s)
	checkNumber(t, s, want, e)
}

// stringsOver returns all strings of at most n of the bytes.
func stringsOver(bytes string, n int) []string {
	l := []string{""}
	for begin := 0; n > 0; n-- {
		end := len(l)
		for _, s := range l[begin:end] {
			for i := range len(bytes) {
				l = append(l, s+bytes[i:i+1])
			}
		}
		begin = end
	}
	return l
}

// listsOf returns all lists of at most n of the elements.
func listsOf(elements []string, n int) [][]string {
	l := [][]string{nil}
	for begin := 0; n > 0; n-- {
		end := len(l)
		for _, some := range l[begin:end] {
			for _, s := range elements {
				l = append(l, append(slices.Clone(some), s))
			}
		}
		begin = end
	}
	return l
}

// filled returns fields whose line has n bytes: many times s, and at the end a field that has the bytes that are missing.
func filled(t *testing.T, s string, n int) []string {
	t.Helper()
	var fields []string
	length := -1
	for length+1+len(formOf(s))+2 <= n {
		fields = append(fields, s)
		length += 1 + len(formOf(s))
	}
	for n-length-1 > maxText {
		fields = append(fields, "x")
		length += 2
	}
	return append(fields, strings.Repeat("x", n-length-1))
}

// fillers are fields of many lengths and forms.
func fillers() []string {
	var l []string
	for _, s := range []string{"a", " ", "\"", "\\", "a\"", "\\a", "a b"} {
		for _, n := range []int{1, 2, 3, 10, 64, maxText/3 - 1, maxText / len(s)} {
			l = append(l, strings.Repeat(s, min(n, maxText/len(s))))
		}
	}
	return append(l, "")
}

// P7.1

func TestJoinExamples(t *testing.T) {
	for _, c := range []struct {
		line   string
		fields []string
	}{
		{"", nil}, {"", []string{}}, {"\"\"", []string{""}}, {"\"\" \"\"", []string{"", ""}}, {"a \"\" \"b\\\"c\"", []string{"a", "", "b\"c"}},
		{"a", []string{"a"}}, {"a b", []string{"a", "b"}}, {"\"a b\"", []string{"a b"}}, {"b a", []string{"b", "a"}}, {"a a a", []string{"a", "a", "a"}}, {"\"\" a", []string{"", "a"}}, {"a \"\"", []string{"a", ""}},
		{"\" \"", []string{" "}}, {"\"  \"", []string{"  "}}, {"\" \" \" \"", []string{" ", " "}}, {"\" a\"", []string{" a"}}, {"\"a \"", []string{"a "}}, {"\"a  b\"", []string{"a  b"}},
		{"\"\\\"\"", []string{"\""}}, {"\"\\\"\\\"\"", []string{"\"\""}}, {"\"\\\"a\"", []string{"\"a"}}, {"\"a\\\"\"", []string{"a\""}}, {"\"\\\"a\\\"\"", []string{"\"a\""}},
		{"\"\\\\\"", []string{"\\"}}, {"\"\\\\\\\\\"", []string{"\\\\"}}, {"\"\\\\a\"", []string{"\\a"}}, {"\"a\\\\\"", []string{"a\\"}}, {"\"\\\\n\"", []string{"\\n"}}, {"\"\\\\\\\"\"", []string{"\\\""}}, {"\"\\\"\\\\\"", []string{"\"\\"}},
		{"\"\\\" \\\\\"", []string{"\" \\"}}, {"\"\\\\\" \"\\\"\"", []string{"\\", "\""}}, {"# 1", []string{"#", "1"}}, {"#x", []string{"#x"}}, {"\"# x\"", []string{"# x"}}, {"-1 'a' `b` a,b {} ~ !", []string{"-1", "'a'", "`b`", "a,b", "{}", "~", "!"}},
	} {
		checkJoin(t, c.fields, c.line, api.OK)
		checkSplit(t, c.line, c.fields, api.OK)
	}
}

// Each byte stands at each position of short fields, and at some of the longest ones, alone and between others.
func TestJoinBytes(t *testing.T) {
	for b := range 256 {
		permitted := 32 <= b && b <= 126
		for _, length := range []int{1, 2, 3, 9, maxText - 1, maxText} {
			for _, i := range []int{0, 1, 2, 4, 8, maxText / 2, maxText - 2, maxText - 1} {
				if i >= length {
					continue
				}
				s := []byte(strings.Repeat("q", length))
				s[i] = byte(b)
				if _, e := field.Join(string(s)); (e == api.OK) != permitted || !permitted && e != api.ErrForm {
					t.Fatalf("Join of byte %d at %d of %d = %d", b, i, length, e)
				}
				expectJoin(t, string(s))
				expectJoin(t, "a", string(s))
				expectJoin(t, string(s), "b")
				expectJoin(t, "", string(s), " ")
			}
		}
	}
}

// No rune beyond ASCII is permitted, whatever its low byte is.
func TestJoinRunes(t *testing.T) {
	for r := rune(0x80); r < 0x3100; r++ {
		checkJoin(t, []string{string(r)}, "", api.ErrForm)
		checkJoin(t, []string{"a" + string(r) + "b"}, "", api.ErrForm)
	}
	for _, s := range []string{"é", "ä b", "纸", "📜", "\ufeff", "\u00a0", "\u2028", "\uff02", "\uff3c", "\u0161", "\ufffd"} {
		checkJoin(t, []string{"a", s}, "", api.ErrForm)
	}
}

func TestJoinShortFields(t *testing.T) {
	for _, s := range stringsOver("a \"\\#~\x1f\x7f", 4) {
		expectJoin(t, s)
		expectJoin(t, s, s)
		expectJoin(t, "a", s, "")
	}
	for _, l := range listsOf([]string{"", "a", " ", "\"", "\\", "#", "\" ", "\n", "b c"}, 4) {
		expectJoin(t, l...)
	}
}

func TestJoinFieldLengths(t *testing.T) {
	for _, s := range []string{"x", " ", "\"", "\\", "~", "!"} {
		for _, n := range []int{0, 1, 2, 127, 128, maxText - 1, maxText} {
			line, e := field.Join(strings.Repeat(s, n))
			if e != api.OK || line != formOf(strings.Repeat(s, n)) {
				t.Errorf("Join of %d bytes %q = %.80q, %d", n, s, line, e)
			}
			expectJoin(t, strings.Repeat(s, n))
		}
	}
	for _, s := range []string{"x", " ", "\"", "\\", "\n", "\x7f", "\xff"} {
		for _, n := range []int{maxText + 1, maxText + 2, 2 * maxText, maxLine, maxLine + 1, 1 << 16, 1<<16 + 1, 1<<16 + maxText, 1 << 20} {
			checkJoin(t, []string{strings.Repeat(s, n)}, "", api.ErrFull)
			checkJoin(t, []string{"a", strings.Repeat(s, n), "b"}, "", api.ErrFull)
		}
	}
}

// The lines get their lengths from spaces, quotation marks and backslashes before bytes; the fields alone are shorter.
func TestJoinLineLimit(t *testing.T) {
	for _, s := range fillers() {
		for n := maxLine - 3; n <= maxLine+3; n++ {
			fields := filled(t, s, n)
			wantE := api.OK
			if n > maxLine {
				wantE = api.ErrFull
			}
			if line, e := field.Join(fields...); e != wantE || e == api.OK && len(line) != n {
				t.Fatalf("Join of fields (%.80q) whose line has %d bytes = %d bytes, %d", fields, n, len(line), e)
			}
			expectJoin(t, fields...)
			slices.Reverse(fields)
			expectJoin(t, fields...)
		}
	}
}

func TestJoinManyFields(t *testing.T) {
	for _, c := range []struct {
		s string
		n int
	}{{"a", 512}, {"", 341}, {" ", 256}, {"\"", 205}, {"\\", 205}} {
		fields := slices.Repeat([]string{c.s}, c.n)
		expectJoin(t, fields...)
		if _, e := field.Join(fields...); e != api.OK {
			t.Errorf("Join of %d fields %q = %d", c.n, c.s, e)
		}
		checkJoin(t, append(fields, c.s), "", api.ErrFull)
	}
	for _, n := range []int{513, 1024, 1 << 16, 1<<16 + 1, 1 << 20} {
		for _, s := range []string{"", "a", "\\", strings.Repeat("\"", maxText)} {
			fields := slices.Repeat([]string{s}, n)
			checkJoin(t, fields, "", api.ErrFull)
			fields[n-1] = "\n"
			checkJoin(t, fields, "", api.ErrForm)
			fields[0] = strings.Repeat("a", maxText+1)
			checkJoin(t, fields, "", api.ErrFull)
		}
	}
}

func TestJoinErrorsInOrder(t *testing.T) {
	x, q := strings.Repeat("x", maxText), strings.Repeat("\"", maxText)
	long, bad, both := x+"x", x[1:]+"\x7f", "\x1f"+x
	for _, l := range listsOf([]string{"a", x, q, long, bad, both}, 6) {
		expectJoin(t, l...)
	}
	for _, c := range []struct {
		fields []string
		e      api.Errno
	}{
		{[]string{both}, api.ErrFull}, {[]string{bad, long}, api.ErrForm}, {[]string{long, bad}, api.ErrFull}, {[]string{bad, both}, api.ErrForm}, {[]string{both, bad}, api.ErrFull},
		{[]string{q, q}, api.ErrFull}, {[]string{q, q, bad}, api.ErrForm}, {[]string{bad, q, q}, api.ErrForm}, {[]string{q, q, q, q, bad, long}, api.ErrForm},
		{[]string{x, x, x, x}, api.ErrFull}, {[]string{x, x, x, x[3:]}, api.OK}, {[]string{x, x, x, x[2:]}, api.ErrFull}, {[]string{x, x, x, x, "\x1f"}, api.ErrForm}, {[]string{x, x, x, x, "\x80"}, api.ErrForm},
	} {
		if line, e := field.Join(c.fields...); e != c.e || e != api.OK && line != "" {
			t.Errorf("Join of %d fields (%.80q) = %.80q, %d, not %d", len(c.fields), c.fields, line, e, c.e)
		}
	}
}

// The slice has more elements than it is given with.
func TestJoinLeavesTheSlice(t *testing.T) {
	given := []string{"a", "", "b c", "\"", "\\", "#", "behind", "\n"}
	kept := slices.Clone(given)
	for n := range given {
		first, e := field.Join(given[:n]...)
		want, _ := wantJoin(kept[:n])
		if first != want || e != api.OK {
			t.Errorf("Join(%q) = %q, %d", kept[:n], first, e)
		}
		if second, e := field.Join(given[:n]...); second != first || e != api.OK {
			t.Errorf("Join(%q) = %q, %d the second time", kept[:n], second, e)
		}
	}
	if !slices.Equal(given, kept) {
		t.Errorf("Join changed %q to %q", kept, given)
	}
}

// P7.2

func TestSplitRefuses(t *testing.T) {
	for _, line := range []string{
		" ", "  ", "   ", " a", "a ", "  a", "a  ", "a  b", "a b ", " a b", "a   b", "\"\" ", " \"\"", "\"\"  \"\"", "\"a b\" ", " \"a b\"", "\"a b\"  c",
		"a\"", "a\"b", "a\"\"", "a\"b\"", "a\" \"", "a \"", "a\"b c\"", "\"a b\"\"c d\"", "\"\"\"\"", "\"\"a", "a\"\"b", "\"a\"b", "\"\" \"\"\"",
		"\"a\"", "\"ab\"", "\"#\"", "\"~\"", "a \"b\"", "\"a\" b", "\"a\" \"b\"", "\"a b\" \"c\"", "\"'\"", "\"-1\"", "\"" + strings.Repeat("x", maxText) + "\"",
		"\\", "\\\\", "a\\", "\\a", "a\\b", "a\\ b", "\\\"", "\\\"\\\"", "a \\", "\"\"\\", "\\ ", "\\n", "\"a b\"\\",
		"\"\\a b\"", "\"a\\b c\"", "\"\\n\"", "\"\\n \"", "\"\\ \"", "\"a\\ b\"", "\"\\\\\\a\"", "\"\\x20\"", "\"\\040\"", "\"\\u0020\"", "\"\\/ \"", "\"\\' \"",
		"\"", "\"\\", "\"\\\"", "\"a", "\"a b", "\"a b\\\"", "\"a b\\", "\"\"\"", "a \"b c", "\"a b\" \"", "\"\\\\\\\"", "\"a \\\\\\",
		"\"a b\"c", "\"a b\"\\", "\"a b\"\"", "\"\\\"\"a", "\"\\\\\"#", "\"a b\"\n", "\"a b\"\"\"",
		"\n", "a\n", "\na", "a\nb", "a\tb", "\t", "a\r", "\"a b\tc\"", "\"\n\"", "\" \x00\"", "\x00", "\x1f", "\x7f", "\"\x7f \"", "\x80", "\xff", "é", "\"é b\"", "a\u00a0b", "纸",
	} {
		checkSplit(t, line, nil, api.ErrForm)
	}
}

// The lines of all lists of fields are collected; every other string is the line of no fields.
func TestSplitShortLines(t *testing.T) {
	const longest = 8
	bytes := "a \"\\"
	fieldsOf := map[string][]string{"": nil}
	fields := stringsOver(bytes, longest)
	var collect func(line string, list []string)
	collect = func(line string, list []string) {
		for _, s := range fields {
			// The fields are in the order of their lengths: the others are too long, too.
			if len(line)+len(s) > longest {
				break
			}
			next := formOf(s)
			if len(list) > 0 {
				next = line + " " + next
			}
			if len(next) <= longest {
				more := append(slices.Clone(list), s)
				fieldsOf[next] = more
				if len(next)+2 <= longest {
					collect(next, more)
				}
			}
		}
	}
	collect("", nil)
	found := 0
	for _, line := range stringsOver(bytes, longest) {
		if want, ok := fieldsOf[line]; ok {
			checkSplit(t, line, want, api.OK)
			found++
		} else {
			checkSplit(t, line, nil, api.ErrForm)
		}
	}
	if found != len(fieldsOf) {
		t.Errorf("%d of %d lines were found", found, len(fieldsOf))
	}
}

func TestSplitShortLinesOfOtherBytes(t *testing.T) {
	for _, line := range stringsOver("a# \"\\~\x1f\x7f\n", 5) {
		expectSplit(t, line)
	}
}

// Each byte is put in the place of each byte of some lines, and between them, and each byte is left out.
func TestSplitBytes(t *testing.T) {
	for _, line := range []string{"", "a b", "a \"\" \"b\\\"c\" d", "\"a b\" \"\\\\\" \"\\\"\" \"\" e", "# \" \" \"x\\\\ \\\"y\"", "\"\" \"\""} {
		for i := range len(line) + 1 {
			for b := range 256 {
				one := string([]byte{byte(b)})
				expectSplit(t, line[:i]+one+line[i:])
				if i < len(line) {
					expectSplit(t, line[:i]+one+line[i+1:])
				}
			}
			if i < len(line) {
				expectSplit(t, line[:i]+line[i+1:])
			}
			expectSplit(t, line[:i])
			expectSplit(t, line[i:])
		}
	}
}

// A form may be longer than MaxText bytes, its field may not.
func TestSplitFieldLengths(t *testing.T) {
	for _, s := range []string{"x", " ", "\"", "\\"} {
		for _, n := range []int{1, 127, 128, 129, maxText - 2, maxText - 1, maxText, maxText + 1, maxText + 2, maxText + 100, 505} {
			one := formOf(strings.Repeat(s, n))
			for _, line := range []string{one, "a " + one, one + " a", "\"\" " + one + " \"\""} {
				if len(line) > maxLine {
					t.Fatalf("%d bytes %q make a line of %d", n, s, len(line))
				}
				if _, e := field.Split(line); n <= maxText && e != api.OK || n > maxText && e != api.ErrForm {
					t.Errorf("Split of a field of %d bytes %q = %d", n, s, e)
				}
				expectSplit(t, line)
			}
		}
	}
	checkSplit(t, strings.Repeat("x", maxLine), nil, api.ErrForm)
}

func TestSplitLineLimit(t *testing.T) {
	for _, s := range fillers() {
		for n := maxLine - 3; n <= maxLine+3; n++ {
			fields := filled(t, s, n)
			var forms []string
			for _, f := range fields {
				forms = append(forms, formOf(f))
			}
			line := strings.Join(forms, " ")
			if len(line) != n {
				t.Fatalf("a line of %d bytes, not %d", len(line), n)
			}
			if n <= maxLine {
				checkSplit(t, line, fields, api.OK)
				checkSplit(t, line[:n-1]+"\n", nil, api.ErrForm)
			} else {
				checkSplit(t, line, nil, api.ErrFull)
			}
		}
	}
	checkSplit(t, strings.Repeat("a ", 511)+"a", slices.Repeat([]string{"a"}, 512), api.OK)
	checkSplit(t, strings.Repeat("a ", 511)+"aa", append(slices.Repeat([]string{"a"}, 511), "aa"), api.OK)
}

// What is too long is refused before its bytes are looked at.
func TestSplitErrorsInOrder(t *testing.T) {
	for _, s := range []string{" ", "\"", "\\", "\n", "\x00", "\x7f", "\xff", "x", "a ", "\"\" ", "é", "#", "\\\"", "a  "} {
		for _, n := range []int{maxLine - 1, maxLine} {
			line := strings.Repeat(s, n)[:n]
			expectSplit(t, line)
			if _, e := field.Split(line); e == api.ErrFull {
				t.Errorf("Split of %d bytes of %q = %d", n, s, e)
			}
		}
		for _, n := range []int{maxLine + 1, maxLine + 2, 2 * maxLine, 1 << 16, 1<<16 + 1, 1<<16 + maxLine, 1 << 20} {
			checkSplit(t, strings.Repeat(s, n)[:n], nil, api.ErrFull)
		}
	}
}

// changeable returns a string over bytes that can still be changed.
func changeable(s string) (string, []byte) {
	bytes := []byte(s)
	return unsafe.String(unsafe.SliceData(bytes), len(bytes)), bytes
}

// spoil writes other bytes wherever a result could share memory.
func spoil(bytes []byte) {
	for i := range bytes {
		bytes[i] = 'X'
	}
}

func TestResultsShareNoMemoryWithStrings(t *testing.T) {
	want := []string{"alpha", "", "b c", "d\"e", "omega"}
	line, bytes := changeable("alpha \"\" \"b c\" \"d\\\"e\" omega")
	fields, _ := field.Split(line)
	spoil(bytes)
	if !slices.Equal(fields, want) {
		t.Errorf("Split returned parts of its argument: %q", fields)
	}
	text, bytes := changeable("alpha \"\" \"b c\" \"d\\\"e\" omega\n# x\nalpha\n\"\"\nbeta\n")
	lines, _ := field.Lines(text)
	spoil(bytes)
	if !sameLines(lines, [][]string{want, {"alpha"}, {""}, {"beta"}}) {
		t.Errorf("Lines returned parts of its argument: %q", lines)
	}
	one, bytes := changeable("alpha")
	joined, _ := field.Join(one)
	spoil(bytes)
	if joined != "alpha" {
		t.Errorf("Join returned its argument: %q", joined)
	}
}

func TestResultsAreIndependent(t *testing.T) {
	want := []string{"a", "b", ""}
	first, _ := field.Split("a b \"\"")
	second, _ := field.Split("a b \"\"")
	first[0] = "changed"
	_ = append(first[:1], "changed", "changed")
	if !slices.Equal(second, want) {
		t.Errorf("Split returned %q twice", second)
	}
	lines, _ := field.Lines("a b \"\"\na b \"\"\na b \"\"\n")
	for i := range lines {
		lines[i] = append(lines[i], "more")
		lines[i][0] = "changed"
		for k := i + 1; k < len(lines); k++ {
			if !slices.Equal(lines[k], want) {
				t.Errorf("line %d is %q after line %d was changed", k, lines[k], i)
			}
		}
	}
	again, _ := field.Lines("a b \"\"\n")
	if !sameLines(again, [][]string{want}) {
		t.Errorf("Lines returned %q after another result was changed", again)
	}
}

// P7.3

func TestLinesExamples(t *testing.T) {
	for _, c := range []struct {
		text  string
		lines [][]string
	}{
		{"", nil}, {"\n", nil}, {"\n\n", nil}, {"\n\n\n", nil}, {"#\n", nil}, {"# x\n", nil}, {"#\n#\n", nil}, {"##\n\n# \n", nil}, {"#\"\n", nil}, {"#  \n", nil}, {"# \x00\x7f\xff\t\\\"\n", nil}, {"#\r\n", nil}, {"#é\n", nil},
		{"# x\na b\n\n", [][]string{{"a", "b"}}}, {"a\n", [][]string{{"a"}}}, {"a\nb\n", [][]string{{"a"}, {"b"}}}, {"b\na\n", [][]string{{"b"}, {"a"}}}, {"a\na\n", [][]string{{"a"}, {"a"}}}, {"\na\n\n\nb\n\n", [][]string{{"a"}, {"b"}}},
		{"\"\"\n", [][]string{{""}}}, {"\"\"\n\"\" \"\"\n", [][]string{{""}, {"", ""}}}, {"\"a b\"\n\"\\\"\"\n\"\\\\\"\n", [][]string{{"a b"}, {"\""}, {"\\"}}},
		{"a #\n", [][]string{{"a", "#"}}}, {"a#\n", [][]string{{"a#"}}}, {"\"# x\"\n", [][]string{{"# x"}}}, {"\"#\\\"\"\n# \"#\n\"#\\\\\"\n", [][]string{{"#\""}, {"#\\"}}}, {"\" #\"\n", [][]string{{" #"}}}, {"a\n#b\nc\n", [][]string{{"a"}, {"c"}}},
		{"#" + strings.Repeat("x", maxLine) + "\n", nil}, {"#" + strings.Repeat(" ", 1<<20) + "\na\n", [][]string{{"a"}}},
	} {
		checkLines(t, c.text, c.lines, api.OK)
		expectLines(t, c.text)
	}
}

func TestLinesRefuses(t *testing.T) {
	for _, text := range []string{
		"a", "#", " ", "\"", "\r", "\x00", "a\nb", "a\n#", "#\n#", "\na", "\n ", "a\n ", "# x\na b", "a\r", "a\n\r", "a\n\x0b", "a\n\u2028", "a\u0085",
		" \n", "  \n", "a \n", " a\n", "a  b\n", " #\n", " # x\n", "\"#\"\n", "\"a\"\n", "a\"b\n", "\"a b\n", "\"a\nb\"\n", "\"\n\"\n", "\"a \\\nb\"\n", "\\\n", "a\\\n", "a\\\n\n", "a\r\n", "\r\n", "\t\n", "a\tb\n", "\x00\n", "é\n", "\ufeff\n", "\ufeff# x\n", "a\x0bb\n", "\x7f\n",
		"a\n\n \n", "# x\n #\n", "a\nb \n", "a \nb\n", strings.Repeat("x", maxText+1) + "\n", strings.Repeat("x", maxLine) + "\n",
	} {
		checkLines(t, text, nil, api.ErrForm)
		expectLines(t, text)
	}
	for _, s := range []string{"x", "x ", " ", "\"", "\\", "\x00", "\"\" ", " #"} {
		text := strings.Repeat(s, maxLine)[:maxLine] + "\n"
		expectLines(t, text)
		checkLines(t, "x"+text, nil, api.ErrFull)
		checkLines(t, "a\n#\nx"+text+"b\n", nil, api.ErrFull)
		checkLines(t, "#"+text, nil, api.OK)
	}
}

// Each byte is a text, the last byte of a text, a line, and a part of lines of fields and of others.
func TestLinesBytes(t *testing.T) {
	for b := range 256 {
		s := string([]byte{byte(b)})
		for _, text := range []string{s, "a" + s, "a\n" + s, s + "\n", "a" + s + "\n", s + "a\n", "#" + s + "\n", s + "#\n", "\n" + s + "\n", "a " + s + " b\n", "# x\n" + s + "a b\n# x\n", "\"" + s + " \"\n"} {
			expectLines(t, text)
		}
	}
}

func TestLinesShortTexts(t *testing.T) {
	for _, text := range stringsOver("a# \"\n", 7) {
		expectLines(t, text)
	}
}

// The first line with an error decides, but the last byte of the text before all of them.
func TestLinesErrorsInOrder(t *testing.T) {
	good, best, bad, long := "a b", strings.Repeat("a ", 511)+"aa", "a  b", strings.Repeat("a ", 512)+"a"
	for _, l := range listsOf([]string{good, best, bad, long, "", "#" + long, "# " + bad}, 4) {
		text := strings.Join(l, "\n")
		expectLines(t, text)
		expectLines(t, text+"\n")
	}
	checkLines(t, long+"\n"+bad+"\n", nil, api.ErrFull)
	checkLines(t, bad+"\n"+long+"\n", nil, api.ErrForm)
	checkLines(t, long+"\n"+good, nil, api.ErrForm)
	checkLines(t, long, nil, api.ErrForm)
	checkLines(t, best+"\n", [][]string{append(slices.Repeat([]string{"a"}, 511), "aa")}, api.OK)
}

func TestManyLines(t *testing.T) {
	const n = 1<<16 + 3
	var text strings.Builder
	for i := range n {
		text.WriteString("line " + strconv.Itoa(i) + "\n# " + strconv.Itoa(i) + "\n\n")
	}
	lines, e := field.Lines(text.String())
	if e != api.OK || len(lines) != n {
		t.Fatalf("Lines of %d lines = %d lines, %d", n, len(lines), e)
	}
	for i, l := range lines {
		if !slices.Equal(l, []string{"line", strconv.Itoa(i)}) {
			t.Fatalf("line %d is %q", i, l)
		}
	}
	checkLines(t, text.String()+"a", nil, api.ErrForm)
	checkLines(t, text.String()+" \n", nil, api.ErrForm)
	checkLines(t, strings.Repeat("\n", 1<<20), nil, api.OK)
	checkLines(t, strings.Repeat("#\n", 1<<20), nil, api.OK)
}

// P7.4

func TestNumberExamples(t *testing.T) {
	for s, want := range map[string]int{
		"0": 0, "1": 1, "7": 7, "9": 9, "10": 10, "-1": -1, "-7": -7, "-9": -9, "-10": -10, "100": 100, "1000000": 1000000, "123456789": 123456789, "-9876543210": -9876543210, "2147483648": 1 << 31, "-4294967296": -1 << 32,
		"999999999999": maxMoney - 1, "1000000000000": maxMoney, "-999999999999": -maxMoney + 1, "-1000000000000": -maxMoney,
	} {
		checkNumber(t, s, want, api.OK)
		expectNumber(t, s)
	}
	for _, s := range []string{
		"", "-", "+", "--", "-0", "+0", "00", "01", "007", "-00", "-01", "-007", "000", "0000000000000000000000", "+1", "+5", "--1", "-+1", "+-1", "- 1", "1-", "1-1", "0-", "-1-",
		" ", " 1", "1 ", "1 1", "\n", "1\n", "\n1", "\t1", "1\x00", "\x00", "\x001", "a", "1a", "a1", "0x10", "0b1", "0o7", "1e3", "1.0", "1.", ".1", "0.0", "1,000", "1_000", "1'000", "_1", "\"1\"", "0x", "-0x1", "١", "１", "1１", "−1", "–1", "½", "é", "\xff", "1\xff", "Inf", "NaN", "-Inf",
		"99999999999999999999x", "x99999999999999999999", "-99999999999999999999-", "099999999999999999999", "-099999999999999999999", "+99999999999999999999", "1000000000001 ", "01000000000001", "-01000000000000",
	} {
		checkNumber(t, s, 0, api.ErrForm)
		expectNumber(t, s)
	}
}

func TestNumberRange(t *testing.T) {
	one := big.NewInt(1)
	limits := []*big.Int{big.NewInt(maxMoney), big.NewInt(10 * maxMoney), big.NewInt(math.MaxInt32), big.NewInt(math.MaxUint32), big.NewInt(1 << 50), big.NewInt(math.MaxInt64)}
	for _, bits := range []uint{31, 32, 40, 53, 62, 63, 64, 65, 96, 127, 128, 1024} {
		limits = append(limits, new(big.Int).Lsh(one, bits))
	}
	// A multiple of 2^64 and a bit more would be a small number in a word.
	for _, k := range []int64{1, 2, 3, 10, 1000000} {
		limits = append(limits, new(big.Int).Lsh(big.NewInt(k), 64))
	}
	for _, limit := range limits {
		for d := int64(-12); d <= 12; d++ {
			n := new(big.Int).Add(limit, big.NewInt(d))
			expectNumber(t, n.String())
			expectNumber(t, n.Neg(n).String())
		}
	}
	for _, s := range []string{"1000000000001", "-1000000000001", "1000000000002", "9999999999999", "-9999999999999", "10000000000000", "9223372036854775807", "9223372036854775808", "-9223372036854775808", "-9223372036854775809", "18446744073709551615", "18446744073709551616", "18446744073709551617", "-18446744073709551616", "-99999999999999999999"} {
		checkNumber(t, s, 0, api.ErrRange)
	}
}

// The digits go far beyond every integer; the byte that makes them no number stands at any place.
func TestNumberLength(t *testing.T) {
	for _, n := range []int{14, 19, 20, 21, 64, 255, 256, 257, 1000, 1 << 16, 1 << 20} {
		for _, digit := range []string{"1", "9"} {
			s := strings.Repeat(digit, n)
			checkNumber(t, s, 0, api.ErrRange)
			checkNumber(t, "-"+s, 0, api.ErrRange)
			checkNumber(t, "0"+s, 0, api.ErrForm)
			checkNumber(t, "-0"+s, 0, api.ErrForm)
			checkNumber(t, "+"+s, 0, api.ErrForm)
			checkNumber(t, s+"-", 0, api.ErrForm)
			checkNumber(t, s+"\n", 0, api.ErrForm)
			checkNumber(t, s[:n/2]+"_"+s[n/2:], 0, api.ErrForm)
			checkNumber(t, s[:n/2]+"/"+s[n/2:], 0, api.ErrForm)
			checkNumber(t, s[:n/2]+":"+s[n/2:], 0, api.ErrForm)
		}
		checkNumber(t, strings.Repeat("0", n), 0, api.ErrForm)
		checkNumber(t, strings.Repeat("-", n), 0, api.ErrForm)
		checkNumber(t, "1"+strings.Repeat("0", n), 0, api.ErrRange)
	}
}

func TestNumberShortStrings(t *testing.T) {
	for _, s := range stringsOver("0129-+ /:", 5) {
		expectNumber(t, s)
	}
	for b := range 256 {
		one := string([]byte{byte(b)})
		for _, s := range []string{"", "1", "-", "-1", "0", "12", "999999999999", "99999999999999999999"} {
			for i := range len(s) + 1 {
				expectNumber(t, s[:i]+one+s[i:])
			}
		}
	}
}

func TestNumbers(t *testing.T) {
	for n := -12345; n <= 12345; n++ {
		checkNumber(t, strconv.Itoa(n), n, api.OK)
	}
	for n := 1; n <= maxMoney; n = n*3/2 + 1 {
		checkNumber(t, strconv.Itoa(n), n, api.OK)
		checkNumber(t, strconv.Itoa(-n), -n, api.OK)
	}
}

// P7.5

// The lists are made of fields of all lengths and of all permitted bytes, in an order without a rule; checkJoin and checkSplit go to the line and back.
func TestThereAndBack(t *testing.T) {
	x := uint32(1)
	next := func(n int) int {
		x = x*1664525 + 1013904223
		return int(x>>8) % n
	}
	ok := 0
	for range 20000 {
		fields := make([]string, next(8))
		for i := range fields {
			s := make([]byte, next([]int{2, 6, 40, maxText + 1}[next(4)]))
			for k := range s {
				s[k] = byte(32 + next(95))
				if next(4) == 0 {
					s[k] = " \"\\#"[next(4)]
				}
			}
			fields[i] = string(s)
		}
		line, e := wantJoin(fields)
		checkJoin(t, fields, line, e)
		if e != api.OK {
			continue
		}
		ok++
		checkSplit(t, line, fields, api.OK)
		// One byte more, less or another one: the line of other fields, or of none.
		if line != "" {
			i := next(len(line))
			expectSplit(t, line[:i]+line[i+1:])
			expectSplit(t, line[:i]+" "+line[i:])
			expectSplit(t, line[:i]+"\""+line[i:])
			expectSplit(t, line[:i]+"\\"+line[i:])
		}
	}
	if ok < 10000 {
		t.Errorf("only %d lists had a line", ok)
	}
}

// P7.6

func TestLinesOfTwoTexts(t *testing.T) {
	x := strings.Repeat("x", maxText)
	parts := []string{"", "\n", "\n\n", "# x\n", "a\n", "a b\n", "a\nb\n", "\"\"\n", "\"# x\"\n#\n", "\n\"\\\"\"\n\n", x + "\n", x + " " + x + "\n#\n" + x + "\n", " \n", "a  b\n", "a\n \nb\n", strings.Repeat(" ", maxLine+1) + "\n", "a\n" + strings.Repeat("a ", maxLine) + "\n"}
	for _, a := range parts {
		for _, b := range parts {
			first, e := field.Lines(a)
			second, f := field.Lines(b)
			both, g := field.Lines(a + b)
			if e == api.OK {
				e = f
			}
			var want [][]string
			if e == api.OK {
				want = slices.Concat(first, second)
			}
			if g != e || !sameLines(both, want) {
				t.Errorf("Lines(%.80q + %.80q) = %.80q, %d, not %.80q, %d", a, b, both, g, want, e)
			}
		}
	}
}
