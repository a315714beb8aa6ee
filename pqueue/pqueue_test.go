package pqueue_test

import (
	"cmp"
	"math"
	"runtime"
	"slices"
	"testing"
	"weak"

	"papermill/pqueue"
)

// entry is a value that an order sees by its key only; the label tells entries with equal keys apart.
type entry struct{ key, label int }

func lessKey(a, b entry) bool { return a.key < b.key }

func greaterKey(a, b entry) bool { return a.key > b.key }

func lessInt(a, b int) bool { return a < b }

func tens(a, b int) bool { return a/10 < b/10 }

// job is a value with memory of its own.
type job struct {
	parts []int
	name  string
}

func fewerParts(a, b job) bool { return len(a.parts) < len(b.parts) }

func sameJob(a, b job) bool { return a.name == b.name && slices.Equal(a.parts, b.parts) }

func same[T comparable](a, b T) bool { return a == b }

// entries returns entries with these keys, and as labels their places in the list from 1 on, so that none of them is the zero value.
func entries(keys ...int) []entry {
	var l []entry
	for i, k := range keys {
		l = append(l, entry{k, i + 1})
	}
	return l
}

// count returns the integers from the first one up to the last one.
func count(first, last int) []int {
	var l []int
	for n := first; n <= last; n++ {
		l = append(l, n)
	}
	return l
}

func backwards[T any](l []T) []T {
	turned := slices.Clone(l)
	slices.Reverse(turned)
	return turned
}

// random returns numbers below n in an order without a rule, the same ones in every run.
func random() func(n int) int {
	x := uint64(1)
	return func(n int) int {
		x = x*6364136223846793005 + 1442695040888963407
		return int(x>>33) % n
	}
}

// tuples calls visit with each list of this length of integers from 0 to below.
func tuples(length, below int, visit func(l []int)) {
	l := make([]int, length)
	for {
		visit(l)
		i := 0
		for i < length && l[i] == below-1 {
			l[i] = 0
			i++
		}
		if i == length {
			return
		}
		l[i]++
	}
}

// rows calls visit with each list of up to this length of integers from 0 to below.
func rows(longest, below int, visit func(l []int)) {
	for length := range longest + 1 {
		tuples(length, below, visit)
	}
}

// model is a queue as the definitions say it: a list of the values in the order in which they were pushed.
type model[T any] struct {
	less   func(a, b T) bool
	values []T
}

// first returns the index of the value that leaves first, or -1.
func (m *model[T]) first() int {
	for i, x := range m.values {
		if !slices.ContainsFunc(m.values, func(y T) bool { return m.less(y, x) }) {
			return i
		}
	}
	return -1
}

func (m *model[T]) peek() (T, bool) {
	i := m.first()
	if i < 0 {
		var none T
		return none, false
	}
	return m.values[i], true
}

func (m *model[T]) pop() (T, bool) {
	x, ok := m.peek()
	if ok {
		i := m.first()
		m.values = slices.Delete(m.values, i, i+1)
	}
	return x, ok
}

// sorted returns the values of l in ascending order, computed by inserting each one behind all that are not greater.
func sorted[T any](l []T, less func(a, b T) bool) []T {
	var s []T
	for _, x := range l {
		at := len(s)
		for at > 0 && less(x, s[at-1]) {
			at--
		}
		s = slices.Insert(s, at, x)
	}
	return s
}

// pushAll pushes the values and checks the number of values behind each one.
func pushAll[T any](t *testing.T, q *pqueue.Queue[T], l []T) {
	t.Helper()
	had := q.Len()
	for i, x := range l {
		q.Push(x)
		if q.Len() != had+i+1 {
			t.Fatal("Len behind Push", i, q.Len())
		}
	}
}

// popAll pops until the queue is empty, and checks Peek and Len before and behind each Pop.
func popAll[T any](t *testing.T, q *pqueue.Queue[T], same func(a, b T) bool) []T {
	t.Helper()
	var l []T
	for n := q.Len(); n > 0; n-- {
		x, is := q.Peek()
		again, still := q.Peek()
		if !is || !still || !same(x, again) || q.Len() != n {
			t.Fatal("Peek", x, is, again, still, q.Len(), n)
		}
		y, ok := q.Pop()
		if !ok || !same(x, y) || q.Len() != n-1 {
			t.Fatal("Pop", y, ok, "Peek", x, "Len", q.Len(), n-1)
		}
		l = append(l, y)
	}
	expectEmpty(t, q, same)
	return l
}

// expectEmpty fails unless the queue has no values, also when it is asked twice.
func expectEmpty[T any](t *testing.T, q *pqueue.Queue[T], same func(a, b T) bool) {
	t.Helper()
	var zero T
	for range 2 {
		if x, ok := q.Peek(); ok || !same(x, zero) {
			t.Fatal("Peek of an empty queue", x, ok)
		}
		if x, ok := q.Pop(); ok || !same(x, zero) {
			t.Fatal("Pop of an empty queue", x, ok)
		}
		if q.Len() != 0 {
			t.Fatal("Len of an empty queue", q.Len())
		}
	}
}

// expectOrder pushes the values into a new queue and fails unless they are popped as wanted.
func expectOrder[T any](t *testing.T, less func(a, b T) bool, same func(a, b T) bool, l, want []T) {
	t.Helper()
	q := pqueue.New(less)
	pushAll(t, q, l)
	if got := popAll(t, q, same); !slices.EqualFunc(got, want, same) {
		t.Fatal("pushed", l, "popped", got, "want", want)
	}
}

// expectSorted fails unless Sort returns this, leaves the list and the memory behind it as they are, and shares no memory.
func expectSorted[T any](t *testing.T, less func(a, b T) bool, same func(a, b T) bool, l, want []T) {
	t.Helper()
	var spoilt T
	room := append(slices.Clone(l), make([]T, 3)...)
	before := slices.Clone(room)
	list := room[:len(l)]
	first := pqueue.Sort(list, less)
	second := pqueue.Sort(list, less)
	if !slices.EqualFunc(first, want, same) {
		t.Fatal("Sort of", l, "is", first, "want", want)
	}
	spoil(first, spoilt)
	if !slices.EqualFunc(second, want, same) {
		t.Fatal("two results share memory", l, second)
	}
	if !slices.EqualFunc(room, before, same) {
		t.Fatal("Sort changes its list", before, room)
	}
	spoil(room, spoilt)
	if !slices.EqualFunc(second, want, same) {
		t.Fatal("the result shares memory with the list", l, second)
	}
}

// spoil overwrites a list and the memory behind it.
func spoil[T any](l []T, with T) {
	l = l[:cap(l)]
	for i := range l {
		l[i] = with
	}
}

// P11.1

func TestNew(t *testing.T) {
	q := pqueue.New(lessInt)
	if q == nil {
		t.Fatal("no queue")
	}
	expectEmpty(t, q, same)
	expectEmpty(t, pqueue.New(func(a, b string) bool { return a < b }), same)
	expectEmpty(t, pqueue.New(lessKey), same)
	expectEmpty(t, pqueue.New(fewerParts), sameJob)
	expectEmpty(t, pqueue.New(func(a, b struct{}) bool { return false }), same)
	expectEmpty(t, pqueue.New(func(a, b *int) bool { return *a < *b }), same)
	expectEmpty(t, pqueue.New(func(a, b any) bool { return false }), same)
	expectEmpty(t, pqueue.New(func(a, b [2]bool) bool { return a[0] && b[1] }), same)
}

func TestNewOfNil(t *testing.T) {
	if pqueue.New[int](nil) != nil || pqueue.New[string](nil) != nil || pqueue.New[entry](nil) != nil || pqueue.New[job](nil) != nil {
		t.Fatal("a queue without an order")
	}
	var none func(a, b int) bool
	if pqueue.New(none) != nil {
		t.Fatal("a queue with an order that is nil")
	}
}

// An empty queue has no values with which the order could be called.
func TestEmptyQueueDoesNotAsk(t *testing.T) {
	q := pqueue.New(func(a, b int) bool {
		t.Fatal("asked", a, b)
		return false
	})
	expectEmpty(t, q, same)
	q.Push(5)
	if x, ok := q.Pop(); x != 5 || !ok {
		t.Fatal("Pop", x, ok)
	}
}

// P11.2

func TestQueue(t *testing.T) {
	expectOrder(t, tens, same, []int{31, 12, 35, 10}, []int{12, 10, 31, 35})
	expectOrder(t, tens, same, []int{}, []int{})
	expectOrder(t, tens, same, []int{0}, []int{0})
	expectOrder(t, tens, same, []int{7}, []int{7})
	expectOrder(t, tens, same, []int{7, 7, 7}, []int{7, 7, 7})
	expectOrder(t, tens, same, []int{19, 7, 11, 7, 19}, []int{7, 7, 19, 11, 19})
	expectOrder(t, tens, same, []int{3, 1, 2, 9, 0}, []int{3, 1, 2, 9, 0})
	expectOrder(t, lessInt, same, []int{5, math.MinInt, 0, math.MaxInt, -1}, []int{math.MinInt, -1, 0, 5, math.MaxInt})
	expectOrder(t, lessInt, same, count(1, 9), count(1, 9))
	expectOrder(t, lessInt, same, backwards(count(1, 9)), count(1, 9))
	expectOrder(t, lessKey, same, entries(2, 1, 2, 1, 2), []entry{{1, 2}, {1, 4}, {2, 1}, {2, 3}, {2, 5}})
	expectOrder(t, greaterKey, same, entries(2, 1, 2, 1, 2), []entry{{2, 1}, {2, 3}, {2, 5}, {1, 2}, {1, 4}})
}

func TestQueueOfTypes(t *testing.T) {
	shorter := func(a, b string) bool { return len(a) < len(b) }
	expectOrder(t, shorter, same, []string{"ccc", "", "bb", "a", "dd", "", "b"}, []string{"", "", "a", "b", "bb", "dd", "ccc"})
	jobs := []job{{[]int{1, 2}, "x"}, {nil, "y"}, {[]int{3}, "z"}, {[]int{2, 1}, "x"}, {[]int{}, ""}}
	expectOrder(t, fewerParts, sameJob, jobs, []job{jobs[1], jobs[4], jobs[2], jobs[0], jobs[3]})
	one, two, three := 1, 2, 3
	expectOrder(t, func(a, b *int) bool { return *a < *b }, same, []*int{&three, &one, &two, &one}, []*int{&one, &one, &two, &three})
	falseFirst := func(a, b bool) bool { return !a && b }
	expectOrder(t, falseFirst, same, []bool{true, false, true, false, false}, []bool{false, false, false, true, true})
	numbersFirst := func(a, b any) bool {
		_, first := a.(int)
		_, second := b.(int)
		return first && !second
	}
	expectOrder(t, numbersFirst, same, []any{"a", 2, nil, 1, "b"}, []any{2, 1, "a", nil, "b"})
	expectOrder(t, func(a, b struct{}) bool { return false }, same, make([]struct{}, 5), make([]struct{}, 5))
	expectOrder(t, func(a, b [2]int) bool { return a[1] < b[1] }, same, [][2]int{{1, 9}, {2, 8}, {3, 9}}, [][2]int{{2, 8}, {1, 9}, {3, 9}})
}

// A value is the one that was pushed, with the memory to which it refers.
func TestQueueKeepsValues(t *testing.T) {
	q := pqueue.New(fewerParts)
	parts := []int{1, 2, 3}
	q.Push(job{parts, "x"})
	q.Push(job{nil, "y"})
	parts[1] = 7
	popped := popAll(t, q, sameJob)
	if !sameJob(popped[1], job{[]int{1, 7, 3}, "x"}) || &popped[1].parts[0] != &parts[0] {
		t.Fatal("popped", popped)
	}
}

// zeroLast orders the integers in another way than their type does, with the zero value as the greatest one.
func zeroLast(a, b int) bool { return a != 0 && (b == 0 || a > b) }

func TestZeroValuesArePopped(t *testing.T) {
	expectOrder(t, zeroLast, same, []int{0, 3, 0, 5, -2, 0}, []int{5, 3, -2, 0, 0, 0})
	expectOrder(t, lessInt, same, []int{0, 0}, []int{0, 0})
	q := pqueue.New(lessInt)
	q.Push(0)
	if x, ok := q.Peek(); x != 0 || !ok {
		t.Fatal("Peek", x, ok)
	}
	if x, ok := q.Pop(); x != 0 || !ok {
		t.Fatal("Pop", x, ok)
	}
	expectEmpty(t, q, same)
}

// expectMixed follows a list of steps in a queue and in the model: the step pop removes a value, others push an entry with this key.
func expectMixed(t *testing.T, steps []int, pop int, less func(a, b entry) bool) {
	t.Helper()
	q := pqueue.New(less)
	m := &model[entry]{less: less}
	for i, step := range steps {
		if step == pop {
			x, ok := q.Pop()
			if y, is := m.pop(); x != y || ok != is {
				t.Fatal("steps", steps[:i+1], "Pop", x, ok, "want", y, is)
			}
		} else {
			q.Push(entry{step, i + 1})
			m.values = append(m.values, entry{step, i + 1})
		}
		x, ok := q.Peek()
		if y, is := m.peek(); x != y || ok != is || q.Len() != len(m.values) {
			t.Fatal("steps", steps[:i+1], "Peek", x, ok, "want", y, is, "Len", q.Len(), "want", len(m.values))
		}
	}
	for i, x := range popAll(t, q, same) {
		if y, _ := m.pop(); x != y {
			t.Fatal("steps", steps, "Pop", i, "behind them", x, "want", y)
		}
	}
}

func TestShortMixes(t *testing.T) {
	rows(7, 4, func(steps []int) { expectMixed(t, steps, 3, lessKey) })
	rows(7, 3, func(steps []int) { expectMixed(t, steps, 2, greaterKey) })
	rows(10, 2, func(steps []int) { expectMixed(t, steps, 1, lessKey) })
}

func TestLongMixes(t *testing.T) {
	next := random()
	for round := range 60 {
		keys := []int{1, 2, 3, 7, 40, 1000}[round%6]
		// Of five steps, so many are pops: some queues become great, others empty again and again.
		pops := []int{1, 2, 4}[round/6%3]
		steps := make([]int, 300)
		for i := range steps {
			steps[i] = next(keys)
			if next(5) < pops {
				steps[i] = -1
			}
		}
		expectMixed(t, steps, -1, []func(a, b entry) bool{lessKey, greaterKey}[round%2])
	}
}

// Of equal values the first one leaves first, although the heap moves the last one to its beginning each time.
func TestEqualValuesInTurn(t *testing.T) {
	for n := range 40 {
		for popped := range n + 1 {
			q := pqueue.New(lessKey)
			l := entries(make([]int, 2*n)...)
			pushAll(t, q, l[:n])
			for i := range popped {
				if x, ok := q.Pop(); x != l[i] || !ok {
					t.Fatal("Pop", i, x, ok)
				}
			}
			pushAll(t, q, l[n:])
			if got := popAll(t, q, same); !slices.Equal(got, l[popped:]) {
				t.Fatal("popped", got, "want", l[popped:])
			}
		}
	}
}

func TestEmptyQueueIsUsedAgain(t *testing.T) {
	q := pqueue.New(lessKey)
	next := random()
	for round := range 50 {
		keys := make([]int, round%7)
		for i := range keys {
			keys[i] = next(3)
		}
		l := entries(keys...)
		pushAll(t, q, l)
		if got, want := popAll(t, q, same), sorted(l, lessKey); !slices.Equal(got, want) {
			t.Fatal("round", round, "popped", got, "want", want)
		}
	}
}

// Each way to give ranks to four values is a strict weak ordering.
func TestAllOrdersOfFourValues(t *testing.T) {
	tuples(4, 4, func(ranks []int) {
		less := func(a, b int) bool { return ranks[a] < ranks[b] }
		rows(4, 4, func(l []int) {
			want := sorted(l, less)
			expectOrder(t, less, same, l, want)
			expectSorted(t, less, same, l, want)
		})
	})
}

func TestManyValues(t *testing.T) {
	const many = 100000
	up := count(1, many)
	expectMany(t, lessInt, up, up)
	expectMany(t, lessInt, backwards(up), up)
	expectMany(t, func(a, b int) bool { return a > b }, up, backwards(up))
	expectMany(t, func(a, b int) bool { return false }, up, up)
	expectMany(t, func(a, b int) bool { return false }, backwards(up), backwards(up))
	remainders := func(a, b int) bool { return a%10 < b%10 }
	expectMany(t, remainders, up, byRemainder(up, 10))
	expectMany(t, remainders, backwards(up), byRemainder(backwards(up), 10))
	next := random()
	mixed := slices.Clone(up)
	for i := range mixed {
		k := i + next(many-i)
		mixed[i], mixed[k] = mixed[k], mixed[i]
	}
	expectMany(t, lessInt, mixed, up)
	expectMany(t, remainders, mixed, byRemainder(mixed, 10))
}

// byRemainder returns the values with remainder 0 divided by n, then those with remainder 1, and so on.
func byRemainder(l []int, n int) []int {
	var s []int
	for r := range n {
		for _, x := range l {
			if x%n == r {
				s = append(s, x)
			}
		}
	}
	return s
}

func expectMany(t *testing.T, less func(a, b int) bool, l, want []int) {
	t.Helper()
	q := pqueue.New(less)
	pushAll(t, q, l)
	if got := popAll(t, q, same); !slices.Equal(got, want) {
		t.Fatal("popped in another order")
	}
	if got := pqueue.Sort(l, less); !slices.Equal(got, want) {
		t.Fatal("sorted in another order")
	}
}

func TestTwoQueues(t *testing.T) {
	rows(6, 4, func(steps []int) {
		up, down := pqueue.New(lessKey), pqueue.New(greaterKey)
		ups, downs := &model[entry]{less: lessKey}, &model[entry]{less: greaterKey}
		for i, step := range steps {
			x := entry{i % 3, i + 1}
			switch step {
			case 0:
				up.Push(x)
				ups.values = append(ups.values, x)
			case 1:
				down.Push(x)
				downs.values = append(downs.values, x)
			case 2:
				expectPop(t, up, ups)
			case 3:
				expectPop(t, down, downs)
			}
			if up.Len() != len(ups.values) || down.Len() != len(downs.values) {
				t.Fatal("steps", steps[:i+1], "Len", up.Len(), down.Len())
			}
		}
		for up.Len() > 0 || down.Len() > 0 {
			expectPop(t, up, ups)
			expectPop(t, down, downs)
		}
	})
}

func expectPop[T comparable](t *testing.T, q *pqueue.Queue[T], m *model[T]) {
	t.Helper()
	x, ok := q.Pop()
	if y, is := m.pop(); x != y || ok != is {
		t.Fatal("Pop", x, ok, "want", y, is)
	}
}

// Two queues with one order, and the lists of both, stay apart as well.
func TestTwoQueuesWithOneOrder(t *testing.T) {
	a, b := pqueue.New(tens), pqueue.New(tens)
	pushAll(t, a, []int{31, 12, 35, 10})
	pushAll(t, b, []int{22, 41, 21})
	if x, ok := a.Pop(); x != 12 || !ok || b.Len() != 3 {
		t.Fatal("Pop", x, ok, b.Len())
	}
	if got := popAll(t, b, same); !slices.Equal(got, []int{22, 21, 41}) || a.Len() != 3 {
		t.Fatal("popped", got, a.Len())
	}
	if got := popAll(t, a, same); !slices.Equal(got, []int{10, 31, 35}) {
		t.Fatal("popped", got)
	}
}

// A queue has its own copy of what was pushed: a list of the values may change without it.
func TestQueueSharesNothing(t *testing.T) {
	l := entries(2, 1, 3, 1)
	q := pqueue.New(lessKey)
	pushAll(t, q, l)
	spoil(l, entry{9, 9})
	if got := popAll(t, q, same); !slices.Equal(got, []entry{{1, 2}, {1, 4}, {2, 1}, {3, 3}}) {
		t.Fatal("popped", got)
	}
}

// watched returns an order that answers as less does, and fails if it is called with a value that the test has not passed.
func watched(t *testing.T, less func(a, b entry) bool, passed map[entry]bool) func(a, b entry) bool {
	return func(a, b entry) bool {
		if !passed[a] || !passed[b] {
			t.Error("the order is called with", a, b)
		}
		return less(a, b)
	}
}

func TestOrderSeesPassedValuesOnly(t *testing.T) {
	rows(6, 3, func(steps []int) {
		passed := map[entry]bool{}
		q := pqueue.New(watched(t, lessKey, passed))
		for i, step := range steps {
			if step == 2 {
				q.Pop()
				continue
			}
			// None of the entries is the zero value.
			x := entry{step, i + 1}
			passed[x] = true
			q.Push(x)
		}
		popAll(t, q, same)
		clear(passed)
		l := entries(steps...)
		for _, x := range l {
			passed[x] = true
		}
		pqueue.Sort(l, watched(t, lessKey, passed))
	})
}

// kept pushes values to which nothing else refers, pops them, and returns weak pointers to them.
func kept(q *pqueue.Queue[*entry], n int) []weak.Pointer[entry] {
	var l []weak.Pointer[entry]
	for i := range n {
		x := &entry{i % 7, i}
		l = append(l, weak.Make(x))
		q.Push(x)
	}
	for q.Len() > 1 {
		q.Pop()
	}
	return l
}

// A queue does not keep what popped values refer to. One value is still in the queue; a few more may be held elsewhere.
func TestPoppedValuesAreLeft(t *testing.T) {
	q := pqueue.New(func(a, b *entry) bool { return a.key < b.key })
	const n = 1000
	l := kept(q, n)
	runtime.GC()
	left := 0
	for _, p := range l {
		if p.Value() != nil {
			left++
		}
	}
	if left == 0 || left > n/10 {
		t.Fatal("values that are left", left)
	}
	runtime.KeepAlive(q)
}

// Orders that are no strict weak ordering.

// strange returns functions that make such orders. Those with a state begin anew in each order.
func strange() map[string]func() func(a, b entry) bool {
	plain := func(less func(a, b entry) bool) func() func(a, b entry) bool {
		return func() func(a, b entry) bool { return less }
	}
	return map[string]func() func(a, b entry) bool{
		"always true":   plain(func(a, b entry) bool { return true }),
		"always false":  plain(func(a, b entry) bool { return false }),
		"less or equal": plain(func(a, b entry) bool { return a.key <= b.key }),
		"unequal":       plain(func(a, b entry) bool { return a.key != b.key }),
		"circle":        plain(func(a, b entry) bool { return (a.key+1)%3 == b.key%3 }),
		"not a number":  plain(func(a, b entry) bool { return notOne(a.key) < notOne(b.key) }),
		"next ones":     plain(func(a, b entry) bool { return a.key+1 < b.key }),
		"panic":         plain(func(a, b entry) bool { panic("no order") }),
		"some panic":    plain(panicOfEqual),
		"by turns":      byTurns,
		"by chance":     byChance,
	}
}

// notOne returns a float that is neither less nor greater than others for 1.
func notOne(n int) float64 {
	if n == 1 {
		return math.NaN()
	}
	return float64(n)
}

func panicOfEqual(a, b entry) bool {
	if a.key == b.key {
		panic("equal")
	}
	return a.key < b.key
}

func byTurns() func(a, b entry) bool {
	last := false
	return func(a, b entry) bool {
		last = !last
		return last
	}
}

func byChance() func(a, b entry) bool {
	next := random()
	return func(a, b entry) bool { return next(2) == 0 }
}

// byLabel sorts entries by their labels, so that lists with the same entries become equal.
func byLabel(l []entry) []entry {
	s := slices.Clone(l)
	slices.SortFunc(s, func(a, b entry) int { return cmp.Compare(a.label, b.label) })
	return s
}

// strangeLists calls visit with lists for orders that are no strict weak ordering.
func strangeLists(visit func(l []entry)) {
	rows(6, 3, func(keys []int) { visit(entries(keys...)) })
	next := random()
	for n := range 30 {
		keys := make([]int, 5*n)
		for i := range keys {
			keys[i] = next(1 + n%9)
		}
		visit(entries(keys...))
	}
}

func TestStrangeOrders(t *testing.T) {
	for name, order := range strange() {
		strangeLists(func(l []entry) {
			q := pqueue.New(order())
			pushAll(t, q, l)
			if got := popAll(t, q, same); !slices.Equal(byLabel(got), l) {
				t.Fatal(name, "pushed", l, "popped", got)
			}
		})
	}
}

func TestStrangeOrdersMixed(t *testing.T) {
	for name, order := range strange() {
		rows(6, 4, func(steps []int) {
			q := pqueue.New(order())
			var pushed, popped []entry
			for i, step := range steps {
				if step < 3 {
					pushed = append(pushed, entry{step, i + 1})
					q.Push(entry{step, i + 1})
				} else if x, ok := q.Pop(); ok != (len(popped) < len(pushed)) {
					t.Fatal(name, "steps", steps[:i+1], "Pop", x, ok)
				} else if ok {
					popped = append(popped, x)
				}
				if q.Len() != len(pushed)-len(popped) {
					t.Fatal(name, "steps", steps[:i+1], "Len", q.Len())
				}
			}
			popped = append(popped, popAll(t, q, same)...)
			if !slices.Equal(byLabel(popped), pushed) {
				t.Fatal(name, "steps", steps, "popped", popped)
			}
		})
	}
}

func TestStrangeOrdersOfSort(t *testing.T) {
	for name, order := range strange() {
		strangeLists(func(l []entry) {
			room := append(slices.Clone(l), make([]entry, 3)...)
			before := slices.Clone(room)
			got := pqueue.Sort(room[:len(l)], order())
			if !slices.Equal(byLabel(got), l) || !slices.Equal(room, before) {
				t.Fatal(name, "Sort of", before, "is", got, "list", room)
			}
		})
	}
}

// A value that was pushed several times is popped as often, whatever the order says.
func TestStrangeOrdersOfOneValue(t *testing.T) {
	for name, order := range strange() {
		l := slices.Repeat([]entry{{2, 5}}, 9)
		q := pqueue.New(order())
		pushAll(t, q, l)
		if got := popAll(t, q, same); !slices.Equal(got, l) {
			t.Fatal(name, "popped", got)
		}
		if got := pqueue.Sort(l, order()); !slices.Equal(got, l) {
			t.Fatal(name, "sorted", got)
		}
	}
}

// meddling is an order that pushes into its own queue, and pops from it, when it is called for the first few times.
func meddling(calls int, pops bool) (q *pqueue.Queue[entry], popped *[]entry) {
	popped = new([]entry)
	q = pqueue.New(func(a, b entry) bool {
		if calls == 0 {
			return a.key < b.key
		}
		calls--
		if !pops {
			q.Push(entry{calls % 3, -calls - 1})
		} else if x, ok := q.Pop(); ok {
			*popped = append(*popped, x)
		}
		return calls%2 == 0
	})
	return q, popped
}

func TestOrderUsesItsQueue(t *testing.T) {
	rows(5, 4, func(steps []int) {
		for calls := range 8 {
			for _, pops := range []bool{false, true} {
				q, popped := meddling(calls, pops)
				pushed := 0
				for i, step := range steps {
					if step < 3 {
						pushed++
						q.Push(entry{step, i + 1})
					} else if x, ok := q.Pop(); ok {
						*popped = append(*popped, x)
					}
				}
				for q.Len() > 0 {
					x, ok := q.Pop()
					if !ok {
						t.Fatal("Pop of a queue with values")
					}
					*popped = append(*popped, x)
				}
				own := slices.DeleteFunc(byLabel(*popped), func(x entry) bool { return x.label < 0 })
				once := slices.Compact(byLabel(*popped))
				if len(own) != pushed || len(once) != len(*popped) {
					t.Fatal("steps", steps, "calls", calls, "popped", *popped)
				}
			}
		}
	})
}

// P11.3

func expectNothing[T any](t *testing.T, q *pqueue.Queue[T], same func(a, b T) bool, l ...T) {
	t.Helper()
	expectEmpty(t, q, same)
	for _, x := range l {
		q.Push(x)
		expectEmpty(t, q, same)
	}
}

func TestNilQueue(t *testing.T) {
	expectNothing(t, (*pqueue.Queue[int])(nil), same, 0, 1, -1)
	expectNothing(t, (*pqueue.Queue[string])(nil), same, "", "a")
	expectNothing(t, (*pqueue.Queue[entry])(nil), same, entry{}, entry{1, 2})
	expectNothing(t, (*pqueue.Queue[job])(nil), sameJob, job{}, job{[]int{1}, "x"})
	expectNothing(t, (*pqueue.Queue[*int])(nil), same, nil, new(int))
	expectNothing(t, pqueue.New[int](nil), same, 1, 2)
}

// P11.4

func TestSort(t *testing.T) {
	expectSorted(t, tens, same, []int{31, 12, 35, 10}, []int{12, 10, 31, 35})
	expectSorted(t, tens, same, nil, nil)
	expectSorted(t, tens, same, []int{}, nil)
	expectSorted(t, tens, same, []int{5}, []int{5})
	expectSorted(t, tens, same, []int{5, 3, 9, 3}, []int{5, 3, 9, 3})
	expectSorted(t, lessInt, same, []int{2, 2, 2, 2, 2, 2}, []int{2, 2, 2, 2, 2, 2})
	expectSorted(t, lessInt, same, []int{5, math.MinInt, 0, math.MaxInt, -1}, []int{math.MinInt, -1, 0, 5, math.MaxInt})
	expectSorted(t, zeroLast, same, []int{0, 3, 0, 5, -2, 0}, []int{5, 3, -2, 0, 0, 0})
	expectSorted(t, func(a, b string) bool { return a < b }, same, []string{"b", "", "ab", "a"}, []string{"", "a", "ab", "b"})
	expectSorted(t, lessKey, same, entries(1, 0, 1, 0), []entry{{0, 2}, {0, 4}, {1, 1}, {1, 3}})
	jobs := []job{{[]int{1, 2}, "x"}, {nil, "y"}, {[]int{3}, "z"}, {[]int{2, 1}, "x"}, {[]int{}, ""}}
	expectSorted(t, fewerParts, sameJob, jobs, []job{jobs[1], jobs[4], jobs[2], jobs[0], jobs[3]})
	expectSorted(t, func(a, b struct{}) bool { return false }, same, make([]struct{}, 4), make([]struct{}, 4))
}

func TestSortOfShortLists(t *testing.T) {
	rows(7, 3, func(keys []int) {
		l := entries(keys...)
		expectSorted(t, lessKey, same, l, sorted(l, lessKey))
		expectSorted(t, greaterKey, same, l, sorted(l, greaterKey))
	})
}

func TestSortOfLongLists(t *testing.T) {
	next := random()
	for n := range 200 {
		keys := make([]int, 2*n)
		for i := range keys {
			keys[i] = next(1 + n/3)
		}
		l := entries(keys...)
		expectSorted(t, lessKey, same, l, sorted(l, lessKey))
	}
	equal := entries(make([]int, 3000)...)
	expectSorted(t, lessKey, same, equal, equal)
}

func TestSortWithoutOrder(t *testing.T) {
	expectSorted(t, nil, same, []int(nil), nil)
	expectSorted(t, nil, same, []int{}, nil)
	expectSorted(t, nil, same, []int{4}, []int{4})
	expectSorted(t, nil, same, []int{3, 1, 2, 1}, []int{3, 1, 2, 1})
	expectSorted(t, nil, same, []string{"b", "", "a"}, []string{"b", "", "a"})
	jobs := []job{{[]int{1, 2}, "x"}, {nil, "y"}, {[]int{3}, "z"}}
	expectSorted(t, nil, sameJob, jobs, jobs)
	expectSorted(t, nil, same, count(1, 1000), count(1, 1000))
}

// A list that ends before its memory does is sorted up to its end only.
func TestSortOfPartOfList(t *testing.T) {
	l := []int{9, 8, 7, 1, 2}
	if got := pqueue.Sort(l[1:3], lessInt); !slices.Equal(got, []int{7, 8}) || !slices.Equal(l, []int{9, 8, 7, 1, 2}) {
		t.Fatal("Sort", got, l)
	}
	if got := pqueue.Sort(l[1:3], nil); !slices.Equal(got, []int{8, 7}) || !slices.Equal(append(got, 0), []int{8, 7, 0}) || l[3] != 1 {
		t.Fatal("Sort", got, l)
	}
}

// P11.5

// expectStable fails unless a new queue gives the values of l as Sort returns them. The function makes the same order twice.
func expectStable(t *testing.T, name string, order func() func(a, b entry) bool, l []entry) {
	t.Helper()
	q := pqueue.New(order())
	pushAll(t, q, l)
	got := popAll(t, q, same)
	if want := pqueue.Sort(l, order()); !slices.Equal(got, want) {
		t.Fatal(name, "pushed", l, "popped", got, "sorted", want)
	}
}

func TestQueueGivesSorted(t *testing.T) {
	plain := func() func(a, b entry) bool { return lessKey }
	rows(7, 3, func(keys []int) { expectStable(t, "keys", plain, entries(keys...)) })
	next := random()
	for n := range 100 {
		keys := make([]int, 3*n)
		for i := range keys {
			keys[i] = next(1 + n%11)
		}
		expectStable(t, "keys", plain, entries(keys...))
	}
}

// The promise names no kind of order: it holds for those that are no strict weak ordering, too.
func TestQueueGivesSortedInStrangeOrders(t *testing.T) {
	for name, order := range strange() {
		strangeLists(func(l []entry) { expectStable(t, name, order, l) })
	}
}
