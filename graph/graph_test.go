package graph_test

import (
	"math"
	"slices"
	"testing"

	"papermill/api"
	"papermill/graph"
)

// The numbers that the document gives for MaxNodes and MaxArcs.
const (
	mostNodes = 64
	mostArcs  = 512
)

// arcs returns arcs from pairs of nodes.
func arcs(ends ...int) []api.Arc {
	var l []api.Arc
	for pair := range slices.Chunk(ends, 2) {
		l = append(l, api.Arc{From: pair[0], To: pair[1]})
	}
	return l
}

func graphOf(nodes int, ends ...int) api.Graph {
	return api.Graph{Nodes: nodes, Arcs: arcs(ends...)}
}

// along returns the arcs from each node of a list to the next one.
func along(list ...int) []api.Arc {
	var l []api.Arc
	for i := 1; i < len(list); i++ {
		l = append(l, api.Arc{From: list[i-1], To: list[i]})
	}
	return l
}

// around returns the arcs of a cycle.
func around(list ...int) []api.Arc {
	return append(along(list...), api.Arc{From: list[len(list)-1], To: list[0]})
}

// count returns the integers from the first to the last one, upwards or downwards.
func count(first, last int) []int {
	if first > last {
		l := count(last, first)
		slices.Reverse(l)
		return l
	}
	l := make([]int, 0, last-first+1)
	for n := first; n <= last; n++ {
		l = append(l, n)
	}
	return l
}

// random returns numbers below n in an order without a rule, the same ones in every run.
func random() func(n int) int {
	x := uint64(1)
	return func(n int) int {
		x = x*6364136223846793005 + 1442695040888963407
		return int(x>>33) % n
	}
}

// shuffled returns the numbers below n in an order without a rule.
func shuffled(next func(n int) int, n int) []int {
	l := count(0, n-1)
	for i := range l {
		k := i + next(n-i)
		l[i], l[k] = l[k], l[i]
	}
	return l
}

func hasArc(g api.Graph, from, to int) bool {
	return slices.Contains(g.Arcs, api.Arc{From: from, To: to})
}

// table says for each pair of nodes whether an arc leads from the first to the second one.
func table(g api.Graph) [][]bool {
	rows := make([][]bool, g.Nodes)
	for n := range rows {
		rows[n] = make([]bool, g.Nodes)
	}
	for _, a := range g.Arcs {
		rows[a.From][a.To] = true
	}
	return rows
}

// connected says for each pair of nodes whether a path of at least one arc leads from the first to the second one.
func connected(g api.Graph) [][]bool {
	rows := table(g)
	for over := range rows {
		for from := range rows {
			if !rows[from][over] {
				continue
			}
			for to := range rows {
				rows[from][to] = rows[from][to] || rows[over][to]
			}
		}
	}
	return rows
}

// firstOnCycle returns the least node that is on a cycle, or -1.
func firstOnCycle(g api.Graph) int {
	rows := connected(g)
	for n := range rows {
		if rows[n][n] {
			return n
		}
	}
	return -1
}

// wantCycle returns the cycle that Cycle must return: the least list of each number of arcs is found from those of one arc less.
func wantCycle(g api.Graph) ([]int, api.Errno) {
	first := firstOnCycle(g)
	if first < 0 {
		return nil, api.ErrNone
	}
	rows := table(g)
	least := make([][]int, g.Nodes) // the least list from each node to the arc that leads to the first one
	for n := range least {
		if rows[n][first] {
			least[n] = []int{n}
		}
	}
	for least[first] == nil {
		longer := make([][]int, g.Nodes)
		for n := range longer {
			for head, list := range least {
				if rows[n][head] && list != nil && (longer[n] == nil || slices.Compare(list, longer[n][1:]) < 0) {
					longer[n] = append([]int{n}, list...)
				}
			}
		}
		least = longer
	}
	return least[first], api.OK
}

// wantLevels returns what Levels must return: as long as paths of so many arcs end at a node, its level is at least this number.
func wantLevels(g api.Graph) ([]int, api.Errno) {
	levels := make([]int, g.Nodes)
	ends := slices.Repeat([]bool{true}, g.Nodes)
	for length := 1; ; length++ {
		longer := make([]bool, g.Nodes)
		for _, a := range g.Arcs {
			if ends[a.From] {
				longer[a.To] = true
				levels[a.To] = length
			}
		}
		if !slices.Contains(longer, true) {
			return levels, api.OK
		}
		// A path with as many arcs as there are nodes visits one of them twice.
		if length == g.Nodes {
			return nil, api.ErrCycle
		}
		ends = longer
	}
}

// isOrder says whether a list has all nodes, and each arc leads from an earlier to a later one.
func isOrder(g api.Graph, list []int) bool {
	place := slices.Repeat([]int{-1}, g.Nodes)
	for i, n := range list {
		if n < 0 || n >= g.Nodes || place[n] >= 0 {
			return false
		}
		place[n] = i
	}
	return len(list) == g.Nodes && !slices.ContainsFunc(g.Arcs, func(a api.Arc) bool { return place[a.From] >= place[a.To] })
}

// isLeast says whether no node of an order could have been a lesser one: each lesser one that comes later needs another node that is not there yet.
func isLeast(g api.Graph, order []int) bool {
	rows := table(g)
	for i, n := range order {
		later := order[i:]
		for _, other := range later {
			if other < n && !slices.ContainsFunc(later, func(tail int) bool { return rows[tail][other] }) {
				return false
			}
		}
	}
	return true
}

// triedOrder finds the order by trying all lists of the nodes, the lexicographically least ones first.
func triedOrder(g api.Graph) ([]int, api.Errno) {
	var found []int
	var extend func(list []int) bool
	extend = func(list []int) bool {
		if len(list) == g.Nodes {
			found = list
			return isOrder(g, list)
		}
		for n := range g.Nodes {
			if !slices.Contains(list, n) && extend(append(slices.Clone(list), n)) {
				return true
			}
		}
		return false
	}
	if extend(nil) {
		return found, api.OK
	}
	return nil, api.ErrCycle
}

// triedCycle finds the cycle by trying all lists of different nodes: those with the least first node first, of them those with the fewest nodes, of them the least ones.
func triedCycle(g api.Graph) ([]int, api.Errno) {
	rows := table(g)
	var found []int
	var extend func(list []int, missing int) bool
	extend = func(list []int, missing int) bool {
		last := list[len(list)-1]
		if missing == 0 {
			found = list
			return rows[last][list[0]]
		}
		for n := range g.Nodes {
			if rows[last][n] && !slices.Contains(list, n) && extend(append(slices.Clone(list), n), missing-1) {
				return true
			}
		}
		return false
	}
	for first := range g.Nodes {
		for missing := range g.Nodes {
			if extend([]int{first}, missing) {
				return found, api.OK
			}
		}
	}
	return nil, api.ErrNone
}

// guard gives the arcs of a graph with room behind them, and returns a function that checks that neither they nor the room were changed.
func guard(t *testing.T, g api.Graph) (api.Graph, func(name string)) {
	t.Helper()
	memory := slices.Concat(g.Arcs, arcs(7, 7, 8, 8))
	kept := slices.Clone(memory)
	return api.Graph{Nodes: g.Nodes, Arcs: memory[:len(g.Arcs)]}, func(name string) {
		t.Helper()
		if !slices.Equal(memory, kept) {
			t.Fatalf("%s of %v changes it, or shares memory with it", name, g)
		}
	}
}

// spoilInts writes other numbers wherever memory could be shared.
func spoilInts(l []int) {
	l = l[:cap(l)]
	for i := range l {
		l[i] ^= 0x55
	}
}

// checkInts compares what two calls return, and checks that their results do not share memory.
func checkInts(t *testing.T, name string, f func(api.Graph) ([]int, api.Errno), g api.Graph, want []int, wantE api.Errno) {
	t.Helper()
	given, unchanged := guard(t, g)
	first, e1 := f(given)
	second, e2 := f(given)
	if !slices.Equal(first, want) || e1 != wantE || !slices.Equal(second, want) || e2 != wantE {
		t.Fatalf("%s of %v = %v, %d and %v, %d, not %v, %d", name, g, first, e1, second, e2, want, wantE)
	}
	unchanged(name)
	spoilInts(first)
	if !slices.Equal(second, want) {
		t.Fatalf("%s of %v returns shared memory", name, g)
	}
}

func checkCheck(t *testing.T, g api.Graph, want api.Errno) {
	t.Helper()
	given, unchanged := guard(t, g)
	if e := graph.Check(given); e != want {
		t.Fatalf("Check of %.200v = %d, not %d", g, e, want)
	}
	unchanged("Check")
}

func checkOrder(t *testing.T, g api.Graph, want []int, wantE api.Errno) {
	t.Helper()
	checkInts(t, "Order", graph.Order, g, want, wantE)
}

// expectOrder checks an order by its properties.
func expectOrder(t *testing.T, g api.Graph) {
	t.Helper()
	if firstOnCycle(g) >= 0 {
		checkOrder(t, g, nil, api.ErrCycle)
		return
	}
	order, e := graph.Order(g)
	if e != api.OK || !isOrder(g, order) || !isLeast(g, order) {
		t.Fatalf("Order of %v = %v, %d", g, order, e)
	}
	checkOrder(t, g, order, api.OK)
}

func checkCycle(t *testing.T, g api.Graph, want []int, wantE api.Errno) {
	t.Helper()
	checkInts(t, "Cycle", graph.Cycle, g, want, wantE)
}

func expectCycle(t *testing.T, g api.Graph) {
	t.Helper()
	want, e := wantCycle(g)
	checkCycle(t, g, want, e)
}

func checkReach(t *testing.T, g api.Graph, from int, want []bool, wantE api.Errno) {
	t.Helper()
	given, unchanged := guard(t, g)
	first, e1 := graph.Reach(given, from)
	second, e2 := graph.Reach(given, from)
	if !slices.Equal(first, want) || e1 != wantE || !slices.Equal(second, want) || e2 != wantE {
		t.Fatalf("Reach of %v from %d = %v, %d and %v, %d, not %v, %d", g, from, first, e1, second, e2, want, wantE)
	}
	unchanged("Reach")
	first = first[:cap(first)]
	for i := range first {
		first[i] = !first[i]
	}
	if !slices.Equal(second, want) {
		t.Fatalf("Reach of %v from %d returns shared memory", g, from)
	}
}

// expectReach checks it from each node.
func expectReach(t *testing.T, g api.Graph) {
	t.Helper()
	for from, row := range connected(g) {
		row[from] = true
		checkReach(t, g, from, row, api.OK)
	}
}

func checkLevels(t *testing.T, g api.Graph, want []int, wantE api.Errno) {
	t.Helper()
	checkInts(t, "Levels", graph.Levels, g, want, wantE)
}

func expectLevels(t *testing.T, g api.Graph) {
	t.Helper()
	want, e := wantLevels(g)
	checkLevels(t, g, want, e)
}

func equalGraphs(a, b api.Graph) bool { return a.Nodes == b.Nodes && slices.Equal(a.Arcs, b.Arcs) }

func spoilArcs(l []api.Arc) {
	l = l[:cap(l)]
	for i := range l {
		l[i].From ^= 0x55
		l[i].To ^= 0x2a
	}
}

func checkReverse(t *testing.T, g api.Graph, want api.Graph, wantE api.Errno) {
	t.Helper()
	given, unchanged := guard(t, g)
	first, e1 := graph.Reverse(given)
	second, e2 := graph.Reverse(given)
	if !equalGraphs(first, want) || e1 != wantE || !equalGraphs(second, want) || e2 != wantE {
		t.Fatalf("Reverse of %.200v = %.200v, %d and %.200v, %d, not %.200v, %d", g, first, e1, second, e2, want, wantE)
	}
	spoilArcs(first.Arcs)
	unchanged("Reverse")
	if !equalGraphs(second, want) {
		t.Fatalf("Reverse of %v returns shared memory", g)
	}
	spoilArcs(given.Arcs)
	if !equalGraphs(second, want) {
		t.Fatalf("Reverse of %v shares memory with it", g)
	}
}

func expectReverse(t *testing.T, g api.Graph) {
	t.Helper()
	want := api.Graph{Nodes: g.Nodes}
	for _, a := range g.Arcs {
		want.Arcs = append(want.Arcs, api.Arc{From: a.To, To: a.From})
	}
	checkReverse(t, g, want, api.OK)
}

// eachSmall visits all graphs of up to four nodes without equal arcs.
func eachSmall(f func(g api.Graph)) {
	for nodes := range 5 {
		for choice := range 1 << (nodes * nodes) {
			g := api.Graph{Nodes: nodes}
			for i := range nodes * nodes {
				if choice>>i&1 == 1 {
					g.Arcs = append(g.Arcs, api.Arc{From: i / nodes, To: i % nodes})
				}
			}
			f(g)
		}
	}
}

// mixed returns a graph with arcs without a rule; acyclic says that it has no cycles.
func mixed(next func(n int) int, nodes, n int, acyclic bool) api.Graph {
	g := api.Graph{Nodes: nodes}
	names := shuffled(next, nodes)
	for len(g.Arcs) < n {
		a, b := next(nodes), next(nodes)
		if acyclic && a == b {
			continue
		}
		if acyclic && a > b {
			a, b = b, a
		}
		g.Arcs = append(g.Arcs, api.Arc{From: names[a], To: names[b]})
	}
	return g
}

// eachMixed visits graphs of all sizes, with few and many arcs, with and without cycles; equal arcs occur.
func eachMixed(f func(g api.Graph)) {
	next := random()
	for _, nodes := range []int{2, 3, 5, 6, 7, 8, 12, 20, 33, 63, mostNodes} {
		for _, n := range []int{1, nodes / 2, nodes - 1, nodes, nodes + 3, 2 * nodes, 4 * nodes, mostArcs} {
			for range 4 {
				f(mixed(next, nodes, n, false))
				f(mixed(next, nodes, n, true))
			}
		}
	}
}

// rungs returns pairs of nodes, each of which leads to both nodes of the next pair, behind a first node and before a last one: so there are 2^30 paths and more.
func rungs() (ends []api.Arc, nodes int) {
	const pairs = 31
	last := 2*pairs + 1
	ends = append(arcs(0, 1, 0, 2), arcs(last-2, last, last-1, last)...)
	for n := 1; n+3 < last; n += 2 {
		ends = append(ends, arcs(n, n+2, n, n+3, n+1, n+2, n+1, n+3)...)
	}
	return ends, last + 1
}

// P10.1

// refused are graphs that are not valid, with their error.
func refused() []struct {
	g api.Graph
	e api.Errno
} {
	type row = struct {
		g api.Graph
		e api.Errno
	}
	many := func(n int, a api.Arc) []api.Arc { return slices.Repeat([]api.Arc{a}, n) }
	strangers := []int{math.MinInt, math.MinInt + 1, -65, -64, -2, -1, 64, 65, 128, 1 << 31, 1 << 32, 1<<32 + 1, math.MaxInt - 1, math.MaxInt}
	var l []row
	for _, nodes := range strangers {
		if nodes == mostNodes {
			continue
		}
		l = append(l, row{api.Graph{Nodes: nodes}, api.ErrRange}, row{graphOf(nodes, 0, 0), api.ErrRange})
		for _, stranger := range append(strangers, nodes) {
			l = append(l, row{graphOf(nodes, stranger, 0), api.ErrRange}, row{graphOf(nodes, 0, stranger), api.ErrRange})
		}
		l = append(l, row{api.Graph{Nodes: nodes, Arcs: many(mostArcs+1, api.Arc{})}, api.ErrRange}, row{api.Graph{Nodes: nodes, Arcs: many(mostArcs+1, api.Arc{From: -1, To: 64})}, api.ErrRange})
	}
	for _, nodes := range []int{0, 1, 2, 63, mostNodes} {
		for _, n := range []int{mostArcs + 1, mostArcs + 2, 2 * mostArcs, 65536} {
			l = append(l, row{api.Graph{Nodes: nodes, Arcs: many(n, api.Arc{})}, api.ErrFull}, row{api.Graph{Nodes: nodes, Arcs: many(n, api.Arc{From: -1, To: nodes})}, api.ErrFull})
		}
		for _, stranger := range append(strangers, nodes, nodes+1) {
			if stranger >= 0 && stranger < nodes {
				continue
			}
			l = append(l, row{graphOf(nodes, stranger, stranger), api.ErrNone})
			if nodes == 0 {
				continue
			}
			bad := []api.Arc{{From: stranger, To: 0}, {From: 0, To: stranger}, {From: stranger, To: nodes - 1}, {From: nodes - 1, To: stranger}}
			for _, a := range bad {
				l = append(l, row{api.Graph{Nodes: nodes, Arcs: []api.Arc{a}}, api.ErrNone})
				l = append(l, row{api.Graph{Nodes: nodes, Arcs: append(arcs(0, nodes-1, nodes-1, 0), a)}, api.ErrNone})
				l = append(l, row{api.Graph{Nodes: nodes, Arcs: append([]api.Arc{a}, arcs(0, 0)...)}, api.ErrNone})
			}
			l = append(l, row{api.Graph{Nodes: nodes, Arcs: append(many(mostArcs-1, api.Arc{}), bad[0])}, api.ErrNone})
			l = append(l, row{api.Graph{Nodes: nodes, Arcs: append([]api.Arc{bad[1]}, many(mostArcs-1, api.Arc{})...)}, api.ErrNone})
		}
	}
	return l
}

// accepted are graphs at the ends of what is valid.
func accepted() []api.Graph {
	l := []api.Graph{{}, {Arcs: []api.Arc{}}, graphOf(1, 0, 0), graphOf(2, 0, 1, 1, 1, 0, 1), graphOf(4, 3, 3)}
	for nodes := range mostNodes + 1 {
		l = append(l, api.Graph{Nodes: nodes}, api.Graph{Nodes: nodes, Arcs: []api.Arc{}})
		if nodes > 0 {
			l = append(l, graphOf(nodes, nodes-1, 0, 0, nodes-1, nodes-1, nodes-1, 0, 0))
			l = append(l, api.Graph{Nodes: nodes, Arcs: slices.Repeat(arcs(nodes-1, 0), mostArcs)})
			l = append(l, api.Graph{Nodes: nodes, Arcs: slices.Repeat(arcs(0, nodes-1), mostArcs-1)})
		}
	}
	return l
}

func TestCheck(t *testing.T) {
	for _, g := range accepted() {
		checkCheck(t, g, api.OK)
	}
	for _, c := range refused() {
		checkCheck(t, c.g, c.e)
	}
	eachMixed(func(g api.Graph) { checkCheck(t, g, api.OK) })
}

func TestCheckEachArc(t *testing.T) {
	for nodes := range mostNodes + 1 {
		for from := -2; from < nodes+3; from++ {
			for to := -2; to < nodes+3; to++ {
				want := api.ErrNone
				if from >= 0 && from < nodes && to >= 0 && to < nodes {
					want = api.OK
				}
				checkCheck(t, graphOf(nodes, from, to), want)
			}
		}
	}
}

func TestErrorOfCheckFirst(t *testing.T) {
	for _, c := range refused() {
		checkOrder(t, c.g, nil, c.e)
		checkCycle(t, c.g, nil, c.e)
		checkLevels(t, c.g, nil, c.e)
		checkReverse(t, c.g, api.Graph{}, c.e)
		for _, from := range []int{math.MinInt, -1, 0, c.g.Nodes, 64, math.MaxInt} {
			checkReach(t, c.g, from, nil, c.e)
		}
	}
}

func TestOthersAccept(t *testing.T) {
	for _, g := range accepted() {
		expectOrder(t, g)
		expectCycle(t, g)
		expectReach(t, g)
		expectLevels(t, g)
		expectReverse(t, g)
	}
}

// P10.2

func TestOrder(t *testing.T) {
	for _, c := range []struct {
		g    api.Graph
		want []int
	}{
		{graphOf(3, 2, 0, 0, 1), []int{2, 0, 1}},
		{graphOf(4), []int{0, 1, 2, 3}},
		{api.Graph{}, nil},
		{graphOf(1), []int{0}},
		{graphOf(4, 3, 1), []int{0, 2, 3, 1}},
		{graphOf(4, 3, 0), []int{1, 2, 3, 0}},
		{graphOf(4, 0, 3, 0, 3, 0, 3), []int{0, 1, 2, 3}},
		{graphOf(4, 3, 0, 3, 0, 3, 0), []int{1, 2, 3, 0}},
		// A node that becomes ready is placed before greater ones that have been ready for long.
		{graphOf(5, 2, 0, 0, 1), []int{2, 0, 1, 3, 4}},
		{graphOf(6, 3, 0, 5, 1, 0, 2), []int{3, 0, 2, 4, 5, 1}},
		// The list is least, not the place of each node: 0 may come later than it could.
		{graphOf(4, 3, 0, 2, 1), []int{2, 1, 3, 0}},
		{graphOf(5, 4, 3, 3, 0), []int{1, 2, 4, 3, 0}},
		{api.Graph{Nodes: 64, Arcs: along(count(0, 63)...)}, count(0, 63)},
		{api.Graph{Nodes: 64, Arcs: along(count(63, 0)...)}, count(63, 0)},
		{graphOf(64, 63, 0), append(count(1, 63), 0)},
		{api.Graph{Nodes: 64}, count(0, 63)},
	} {
		checkOrder(t, c.g, c.want, api.OK)
	}
}

func TestOrderOfCycles(t *testing.T) {
	for _, g := range []api.Graph{
		graphOf(1, 0, 0), graphOf(3, 2, 2), graphOf(2, 0, 1, 1, 0), graphOf(3, 2, 0, 0, 1, 1, 2), graphOf(4, 0, 1, 1, 2, 2, 3, 3, 2),
		{Nodes: 64, Arcs: around(count(0, 63)...)}, {Nodes: 64, Arcs: append(along(count(0, 63)...), arcs(63, 63)...)}, {Nodes: 64, Arcs: append(along(count(0, 63)...), arcs(63, 62)...)}, {Nodes: 64, Arcs: slices.Repeat(arcs(63, 63), mostArcs)},
	} {
		checkOrder(t, g, nil, api.ErrCycle)
	}
}

func TestOrderTried(t *testing.T) {
	compare := func(g api.Graph) {
		want, e := triedOrder(g)
		checkOrder(t, g, want, e)
	}
	eachSmall(compare)
	next := random()
	for range 60 {
		nodes := 5 + next(2)
		compare(mixed(next, nodes, 1+next(12), true))
		compare(mixed(next, nodes, 1+next(8), false))
	}
}

func TestOrderOfAllSizes(t *testing.T) {
	eachMixed(func(g api.Graph) { expectOrder(t, g) })
	next := random()
	for nodes := 1; nodes <= mostNodes; nodes++ {
		list := shuffled(next, nodes)
		checkOrder(t, api.Graph{Nodes: nodes, Arcs: along(list...)}, list, api.OK)
	}
}

// P10.3

func TestCycle(t *testing.T) {
	for _, c := range []struct {
		g    api.Graph
		want []int
	}{
		{graphOf(3, 0, 1, 1, 2, 2, 0, 2, 1), []int{0, 1, 2}},
		{graphOf(4, 3, 3), []int{3}},
		{graphOf(4, 3, 3, 2, 2, 3, 2), []int{2}},
		{graphOf(4, 3, 3, 1, 2, 2, 1), []int{1, 2}},
		{graphOf(1, 0, 0), []int{0}},
		{graphOf(1, 0, 0, 0, 0, 0, 0), []int{0}},
		// An arc from the node to itself is the shortest cycle through it.
		{graphOf(3, 0, 1, 1, 0, 0, 0), []int{0}},
		{graphOf(3, 0, 1, 1, 1, 1, 0), []int{0, 1}},
		// Fewer nodes come first, also if the list is greater.
		{graphOf(4, 0, 1, 1, 2, 2, 0, 0, 3, 3, 0), []int{0, 3}},
		{graphOf(5, 0, 1, 1, 2, 2, 3, 3, 0, 0, 4, 4, 3), []int{0, 4, 3}},
		// Of the same number of nodes the least list.
		{graphOf(4, 0, 2, 2, 0, 0, 1, 1, 0), []int{0, 1}},
		{graphOf(5, 0, 4, 4, 1, 1, 0, 0, 2, 2, 3, 3, 0), []int{0, 2, 3}},
		{graphOf(5, 0, 1, 1, 4, 4, 0, 1, 3, 3, 0, 0, 2, 2, 3), []int{0, 1, 3}},
		{graphOf(6, 0, 1, 1, 5, 5, 0, 0, 2, 2, 3, 3, 0, 1, 2), []int{0, 1, 5}},
		// A way that begins less but does not come back in time.
		{graphOf(5, 0, 1, 1, 2, 2, 4, 4, 0, 0, 3, 3, 4), []int{0, 3, 4}},
		{graphOf(5, 0, 1, 0, 2, 2, 0), []int{0, 2}},
		// Nodes that lead to a cycle, or to which one leads, are not on it.
		{graphOf(4, 0, 1, 1, 2, 2, 3, 3, 2), []int{2, 3}},
		{graphOf(4, 0, 2, 1, 2, 2, 3, 3, 2), []int{2, 3}},
		{graphOf(4, 3, 2, 2, 3, 2, 0, 3, 1, 0, 1), []int{2, 3}},
		{graphOf(6, 5, 4, 4, 5, 4, 0, 0, 1, 1, 3), []int{4, 5}},
		{graphOf(5, 3, 3, 1, 2, 2, 4, 4, 1), []int{1, 2, 4}},
		{graphOf(4, 0, 3, 3, 1, 3, 2, 1, 0, 2, 0), []int{0, 3, 1}},
		{api.Graph{Nodes: 64, Arcs: around(count(0, 63)...)}, count(0, 63)},
		{api.Graph{Nodes: 64, Arcs: around(count(63, 0)...)}, append([]int{0}, count(63, 1)...)},
		{api.Graph{Nodes: 64, Arcs: append(along(count(0, 63)...), arcs(63, 63)...)}, []int{63}},
		{api.Graph{Nodes: 64, Arcs: append(around(count(0, 63)...), arcs(5, 5, 7, 6, 62, 1)...)}, count(0, 63)},
		{api.Graph{Nodes: 64, Arcs: slices.Repeat(arcs(63, 63), mostArcs)}, []int{63}},
	} {
		checkCycle(t, c.g, c.want, api.OK)
	}
}

func TestNoCycle(t *testing.T) {
	for _, g := range []api.Graph{
		{}, graphOf(1), graphOf(3, 0, 1, 1, 2), graphOf(3, 0, 1, 1, 2, 0, 2, 0, 2), graphOf(4, 3, 2, 3, 1, 2, 0, 1, 0),
		{Nodes: 64}, {Nodes: 64, Arcs: along(count(0, 63)...)}, {Nodes: 64, Arcs: along(count(63, 0)...)}, {Nodes: 2, Arcs: slices.Repeat(arcs(1, 0), mostArcs)},
	} {
		checkCycle(t, g, nil, api.ErrNone)
	}
}

func TestCycleTried(t *testing.T) {
	compare := func(g api.Graph) {
		want, e := triedCycle(g)
		checkCycle(t, g, want, e)
	}
	eachSmall(compare)
	next := random()
	for range 300 {
		nodes := 5 + next(4)
		compare(mixed(next, nodes, 1+next(3*nodes), false))
	}
}

func TestCycleOfAllSizes(t *testing.T) {
	eachMixed(func(g api.Graph) { expectCycle(t, g) })
	next := random()
	for nodes := 1; nodes <= mostNodes; nodes++ {
		list := shuffled(next, nodes)
		first := slices.Index(list, 0)
		checkCycle(t, api.Graph{Nodes: nodes, Arcs: around(list...)}, slices.Concat(list[first:], list[:first]), api.OK)
	}
}

// Neither the order of the arcs nor how often each one stands there changes a list of nodes.
func TestOtherArcs(t *testing.T) {
	next := random()
	eachMixed(func(g api.Graph) {
		if 2*len(g.Arcs) > mostArcs {
			return
		}
		other := api.Graph{Nodes: g.Nodes}
		for _, i := range shuffled(next, 2*len(g.Arcs)) {
			other.Arcs = append(other.Arcs, g.Arcs[i/2])
		}
		order, e := graph.Order(g)
		checkOrder(t, other, order, e)
		cycle, e := graph.Cycle(g)
		checkCycle(t, other, cycle, e)
		levels, e := graph.Levels(g)
		checkLevels(t, other, levels, e)
	})
}

// P10.4

func TestReach(t *testing.T) {
	for _, c := range []struct {
		g    api.Graph
		from int
		want []bool
	}{
		{graphOf(3, 0, 2), 0, []bool{true, false, true}},
		{graphOf(3, 0, 2), 1, []bool{false, true, false}},
		{graphOf(3, 0, 2), 2, []bool{false, false, true}},
		{graphOf(1), 0, []bool{true}},
		{graphOf(2), 1, []bool{false, true}},
		{graphOf(4, 0, 2, 2, 3, 1, 0), 0, []bool{true, false, true, true}},
		{graphOf(4, 0, 2, 2, 3, 1, 0), 1, []bool{true, true, true, true}},
		{graphOf(4, 2, 2), 2, []bool{false, false, true, false}},
		{graphOf(4, 2, 1, 1, 2, 1, 2), 1, []bool{false, true, true, false}},
		{graphOf(5, 4, 3, 3, 2, 2, 4, 1, 4), 3, []bool{false, false, true, true, true}},
		{api.Graph{Nodes: 64, Arcs: along(count(0, 63)...)}, 0, slices.Repeat([]bool{true}, 64)},
		{api.Graph{Nodes: 64, Arcs: along(count(0, 63)...)}, 32, slices.Concat(make([]bool, 32), slices.Repeat([]bool{true}, 32))},
		{api.Graph{Nodes: 64, Arcs: along(count(63, 0)...)}, 63, slices.Repeat([]bool{true}, 64)},
		{api.Graph{Nodes: 64, Arcs: along(count(63, 0)...)}, 0, append([]bool{true}, make([]bool, 63)...)},
		{api.Graph{Nodes: 64, Arcs: around(count(0, 63)...)}, 40, slices.Repeat([]bool{true}, 64)},
	} {
		checkReach(t, c.g, c.from, c.want, api.OK)
	}
}

func TestReachFromNoNode(t *testing.T) {
	for _, g := range accepted() {
		for _, from := range []int{math.MinInt, -65, -2, -1, g.Nodes, g.Nodes + 1, 64, 65, 1 << 32, math.MaxInt} {
			if from != g.Nodes && from >= 0 && from < g.Nodes {
				continue
			}
			checkReach(t, g, from, nil, api.ErrNone)
		}
	}
}

func TestReachFromEachNode(t *testing.T) {
	eachSmall(func(g api.Graph) { expectReach(t, g) })
	eachMixed(func(g api.Graph) { expectReach(t, g) })
}

// P10.5

func TestLevels(t *testing.T) {
	for _, c := range []struct {
		g    api.Graph
		want []int
	}{
		{graphOf(3, 0, 1, 1, 2, 0, 2), []int{0, 1, 2}},
		{graphOf(4, 0, 1, 1, 2, 0, 2), []int{0, 1, 2, 0}},
		{api.Graph{}, nil},
		{graphOf(1), []int{0}},
		{graphOf(3), []int{0, 0, 0}},
		{graphOf(3, 0, 2, 0, 2, 0, 2), []int{0, 0, 1}},
		{graphOf(3, 2, 1, 1, 0, 2, 0), []int{2, 1, 0}},
		{graphOf(5, 4, 0, 0, 3, 4, 3, 1, 3), []int{1, 0, 0, 2, 0}},
		{graphOf(5, 0, 4, 0, 1, 1, 2, 2, 3, 3, 4), []int{0, 1, 2, 3, 4}},
		{graphOf(5, 3, 4, 2, 3, 1, 2, 0, 1, 0, 4), []int{0, 1, 2, 3, 4}},
		{api.Graph{Nodes: 64, Arcs: along(count(0, 63)...)}, count(0, 63)},
		{api.Graph{Nodes: 64, Arcs: along(count(63, 0)...)}, count(63, 0)},
		{api.Graph{Nodes: 64}, make([]int, 64)},
	} {
		checkLevels(t, c.g, c.want, api.OK)
	}
}

func TestLevelsOfCycles(t *testing.T) {
	for _, g := range []api.Graph{
		graphOf(1, 0, 0), graphOf(2, 0, 1, 1, 0), graphOf(3, 2, 2), graphOf(4, 0, 1, 1, 2, 2, 3, 3, 2), graphOf(4, 2, 3, 3, 2, 2, 0, 0, 1),
		{Nodes: 64, Arcs: around(count(0, 63)...)}, {Nodes: 64, Arcs: append(along(count(63, 0)...), arcs(0, 0)...)},
	} {
		checkLevels(t, g, nil, api.ErrCycle)
	}
}

func TestLevelsOfAllSizes(t *testing.T) {
	eachSmall(func(g api.Graph) { expectLevels(t, g) })
	eachMixed(func(g api.Graph) { expectLevels(t, g) })
	next := random()
	for nodes := 1; nodes <= mostNodes; nodes++ {
		list := shuffled(next, nodes)
		want := make([]int, nodes)
		for level, n := range list {
			want[n] = level
		}
		checkLevels(t, api.Graph{Nodes: nodes, Arcs: along(list...)}, want, api.OK)
	}
}

func TestReverse(t *testing.T) {
	for _, c := range []struct{ g, want api.Graph }{
		{api.Graph{}, api.Graph{}},
		{api.Graph{Nodes: 64}, api.Graph{Nodes: 64}},
		{graphOf(1, 0, 0), graphOf(1, 0, 0)},
		{graphOf(3, 0, 1, 1, 2, 2, 2), graphOf(3, 1, 0, 2, 1, 2, 2)},
		{graphOf(4, 3, 1, 0, 2, 3, 1, 1, 3), graphOf(4, 1, 3, 2, 0, 1, 3, 3, 1)},
		{api.Graph{Nodes: 64, Arcs: slices.Repeat(arcs(63, 0, 1, 2), mostArcs/2)}, api.Graph{Nodes: 64, Arcs: slices.Repeat(arcs(0, 63, 2, 1), mostArcs/2)}},
	} {
		checkReverse(t, c.g, c.want, api.OK)
	}
}

func TestReverseOfAllSizes(t *testing.T) {
	eachSmall(func(g api.Graph) { expectReverse(t, g) })
	eachMixed(func(g api.Graph) { expectReverse(t, g) })
}

// A graph with more paths than can be gone through one by one.
func TestManyPaths(t *testing.T) {
	ends, nodes := rungs()
	g := api.Graph{Nodes: nodes, Arcs: ends}
	levels := make([]int, nodes)
	for n := range levels {
		levels[n] = (n + 1) / 2
	}
	checkOrder(t, g, count(0, nodes-1), api.OK)
	checkLevels(t, g, levels, api.OK)
	checkCycle(t, g, nil, api.ErrNone)
	checkReach(t, g, 0, slices.Repeat([]bool{true}, nodes), api.OK)

	closed := api.Graph{Nodes: nodes, Arcs: append(ends, api.Arc{From: nodes - 1, To: 0})}
	var want []int
	for n := 0; n < nodes; n++ {
		if n == 0 || n%2 == 1 {
			want = append(want, n)
		}
	}
	checkOrder(t, closed, nil, api.ErrCycle)
	checkLevels(t, closed, nil, api.ErrCycle)
	checkCycle(t, closed, want, api.OK)
	expectCycle(t, closed)
}

// P10.6

func TestOrderOrCycle(t *testing.T) {
	compare := func(g api.Graph) {
		order, orderE := graph.Order(g)
		cycle, cycleE := graph.Cycle(g)
		if (orderE == api.OK) != (cycleE == api.ErrNone) || (orderE == api.ErrCycle) != (cycleE == api.OK) {
			t.Fatalf("%v has the order %v, %d and the cycle %v, %d", g, order, orderE, cycle, cycleE)
		}
		for i, n := range cycle {
			if !hasArc(g, n, cycle[(i+1)%len(cycle)]) || slices.Contains(cycle[:i], n) || n < cycle[0] {
				t.Fatalf("%v has the cycle %v", g, cycle)
			}
		}
	}
	eachSmall(compare)
	eachMixed(compare)
	for _, g := range accepted() {
		compare(g)
	}
}

// P10.7

func TestArcsLeadToHigherLevels(t *testing.T) {
	compare := func(g api.Graph) {
		levels, e := graph.Levels(g)
		if e != api.OK {
			return
		}
		reached := make([]bool, g.Nodes)
		for _, a := range g.Arcs {
			if levels[a.From] >= levels[a.To] {
				t.Fatalf("%v has the levels %v", g, levels)
			}
			reached[a.To] = reached[a.To] || levels[a.From] == levels[a.To]-1
		}
		for n, level := range levels {
			if level < 0 || level > 0 && !reached[n] {
				t.Fatalf("%v has the levels %v", g, levels)
			}
		}
	}
	eachSmall(compare)
	eachMixed(compare)
}

// P10.8

func TestReversed(t *testing.T) {
	compare := func(g api.Graph) {
		back, e := graph.Reverse(g)
		if e != api.OK {
			t.Fatalf("Reverse of %v = %d", g, e)
		}
		if again, e := graph.Reverse(back); e != api.OK || !equalGraphs(again, g) {
			t.Fatalf("%v reversed twice is %v, %d", g, again, e)
		}
		there, here := make([][]bool, g.Nodes), make([][]bool, g.Nodes)
		for n := range g.Nodes {
			there[n], _ = graph.Reach(g, n)
			here[n], _ = graph.Reach(back, n)
		}
		for a := range g.Nodes {
			for b := range g.Nodes {
				if there[a][b] != here[b][a] {
					t.Fatalf("%v has a path from %d to %d: %v, and reversed one back: %v", g, a, b, there[a][b], here[b][a])
				}
			}
		}
	}
	eachSmall(compare)
	eachMixed(compare)
}
