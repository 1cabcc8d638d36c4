package order_test

import (
	"math"
	"slices"
	"testing"

	"forkwright/api"
	"forkwright/order"
)

// of is a graph whose edges are given as From, To, From, To ..
func of(nodes int, ends ...int) api.Graph {
	g := api.Graph{Nodes: nodes}
	for i := 0; i < len(ends); i += 2 {
		g.Edges = append(g.Edges, api.Edge{From: ends[i], To: ends[i+1]})
	}
	return g
}

// where has an edge from n to m wherever leads says so.
func where(nodes int, leads func(n, m int) bool) api.Graph {
	g := api.Graph{Nodes: nodes}
	for n := range nodes {
		for m := range nodes {
			if leads(n, m) {
				g.Edges = append(g.Edges, api.Edge{From: n, To: m})
			}
		}
	}
	return g
}

// line leads from each node to the one below it.
func line(nodes int) api.Graph {
	return where(nodes, func(n, m int) bool { return n == m+1 })
}

// full leads from each node to each one below it.
func full(nodes int) api.Graph {
	return where(nodes, func(n, m int) bool { return n > m })
}

// fence leads from each even node to its neighbours.
func fence(nodes int) api.Graph {
	return where(nodes, func(n, m int) bool { return n%2 == 0 && (m == n-1 || m == n+1) })
}

// rows leads from each node of a row to each one of the next row.
func rows(nodes, width int) api.Graph {
	return where(nodes, func(n, m int) bool { return m/width == n/width+1 })
}

// divisors leads from each number, which stands one below itself, to its multiples.
func divisors(nodes int) api.Graph {
	return where(nodes, func(n, m int) bool { return n < m && (m+1)%(n+1) == 0 })
}

// scattered has edges by a fixed rule, each from a number to a greater one, where the numbers of the nodes are mixed.
func scattered(nodes, edges, seed int) api.Graph {
	g := api.Graph{Nodes: nodes}
	place := func(n int) int { return (n*11 + seed) % nodes } // 11 divides no number of nodes that is asked for here
	x := uint32(seed)
	for range edges {
		x = x*1664525 + 1013904223
		a, b := int(x>>8)%nodes, int(x>>16)%nodes
		if a != b {
			g.Edges = append(g.Edges, api.Edge{From: place(min(a, b)), To: place(max(a, b))})
		}
	}
	return g
}

// loops: round and round, long and short.
func loops() []api.Graph {
	round := line(api.MaxNodes)
	round.Edges = append(round.Edges, api.Edge{From: 0, To: api.MaxNodes - 1})
	return []api.Graph{
		of(1, 0, 0), of(2, 0, 1, 1, 0), of(3, 0, 1, 1, 2, 2, 0), of(4, 0, 1, 2, 2), of(5, 3, 4, 0, 1, 4, 3), round,
	}
}

// beyond: too many nodes, too few, and edges whose ends are none.
func beyond() []api.Graph {
	return []api.Graph{
		of(-1), of(math.MinInt), of(api.MaxNodes + 1), of(math.MaxInt), of(0, 0, 0), of(1, 0, 1), of(1, -1, 0),
		of(2, 0, 1, 1, 2), of(2, math.MinInt, math.MaxInt), of(2, 0, 1, 1, 0, 2, 0), of(api.MaxNodes+1, 0, 0),
	}
}

// follows tells by the words of chapter 2 which node is followed by which.
func follows(g api.Graph) [][]bool {
	f := make([][]bool, g.Nodes)
	for n := range f {
		f[n] = make([]bool, g.Nodes)
	}
	for _, e := range g.Edges {
		f[e.From][e.To] = true
	}
	for k := range f {
		for n := range f {
			for m := range f {
				f[n][m] = f[n][m] || f[n][k] && f[k][m]
			}
		}
	}
	return f
}

func hasLoop(f [][]bool) bool {
	for n := range f {
		if f[n][n] {
			return true
		}
	}
	return false
}

// levels raises the end of an edge above its start until all stand so.
func levels(g api.Graph) []int {
	l := make([]int, g.Nodes)
	for raised := true; raised; {
		raised = false
		for _, e := range g.Edges {
			if l[e.To] <= l[e.From] {
				l[e.To], raised = l[e.From]+1, true
			}
		}
	}
	return l
}

// longest is the chain that the words of C1 choose.
func longest(g api.Graph) []int {
	l := levels(g)
	if len(l) == 0 {
		return nil
	}
	chain := []int{slices.Index(l, slices.Max(l))}
	for l[chain[0]] > 0 {
		end := chain[0]
		for n := 0; ; n++ {
			if l[n] == l[end]-1 && slices.Contains(g.Edges, api.Edge{From: n, To: end}) {
				chain = slices.Insert(chain, 0, n)
				break
			}
		}
	}
	return chain
}

// apart tells by the words of C2 whether l is an antichain.
func apart(f [][]bool, l []int) bool {
	for i, n := range l {
		if n < 0 || n >= len(f) || slices.Contains(l[:i], n) {
			return false
		}
		for _, m := range l[:i] {
			if f[n][m] || f[m][n] {
				return false
			}
		}
	}
	return true
}

// width is the size of the greatest of all antichains.
func width(f [][]bool) int {
	best := 0
	for set := range 1 << len(f) {
		var l []int
		for n := range f {
			if set>>n&1 == 1 {
				l = append(l, n)
			}
		}
		if len(l) > best && apart(f, l) {
			best = len(l)
		}
	}
	return best
}

// fewest is the smallest number of chains, by trying all ways to put the nodes from n on into chains.
func fewest(f [][]bool, n int, chains [][]int) int {
	if n == len(f) {
		return len(chains)
	}
	best := fewest(f, n+1, append(chains, []int{n}))
	for i, c := range chains {
		if !slices.ContainsFunc(c, func(m int) bool { return !f[n][m] && !f[m][n] }) {
			chains[i] = append(slices.Clone(c), n)
			best = min(best, fewest(f, n+1, chains))
			chains[i] = c
		}
	}
	return best
}

// count puts one node behind the other, in each order that there is.
func count(f [][]bool, put []int) uint64 {
	if len(put) == len(f) {
		return 1
	}
	var all uint64
	for n := range f {
		if !slices.Contains(put, n) && mayCome(f, put, n) {
			all += count(f, append(slices.Clone(put), n))
		}
	}
	return all
}

// mayCome tells whether all that n follows has been put.
func mayCome(f [][]bool, put []int, n int) bool {
	for m := range f {
		if f[m][n] && !slices.Contains(put, m) {
			return false
		}
	}
	return true
}

func checkLevels(t *testing.T, g api.Graph, want []int) {
	t.Helper()
	if got, err := order.Levels(g); err != api.OK || !slices.Equal(got, want) {
		t.Errorf("Levels(%v): got %v and %d, want %v", g, got, err, want)
	}
}

func checkHeight(t *testing.T, g api.Graph, want int) {
	t.Helper()
	if got, err := order.Height(g); err != api.OK || got != want {
		t.Errorf("Height(%v): got %d and %d, want %d", g, got, err, want)
	}
}

func checkChain(t *testing.T, g api.Graph, want []int) {
	t.Helper()
	if got, err := order.Chain(g); err != api.OK || !slices.Equal(got, want) {
		t.Errorf("Chain(%v): got %v and %d, want %v", g, got, err, want)
	}
}

func checkApart(t *testing.T, g api.Graph, l []int, want bool) {
	t.Helper()
	if got := order.Apart(g, l); got != want {
		t.Errorf("Apart(%v, %v): got %v, want %v", g, l, got, want)
	}
}

// isCover tells whether the chains are chains and have each node once.
func isCover(f [][]bool, cover [][]int) bool {
	all := slices.Concat(cover...)
	slices.Sort(all)
	for i, n := range all {
		if i != n {
			return false
		}
	}
	for _, c := range cover {
		if len(c) == 0 {
			return false
		}
		for i := 1; i < len(c); i++ {
			if !f[c[i-1]][c[i]] {
				return false
			}
		}
	}
	return len(all) == len(f)
}

// checkWidth: any cover of that many chains will do, and any antichain of that many nodes, if they always come.
func checkWidth(t *testing.T, g api.Graph, want int) {
	t.Helper()
	f := follows(g)
	cover, err := order.Cover(g)
	if err != api.OK || len(cover) != want || !isCover(f, cover) {
		t.Errorf("Cover(%v): got %v and %d, want %d chains", g, cover, err, want)
	}
	wide, err := order.Wide(g)
	if err != api.OK || len(wide) != want || !apart(f, wide) {
		t.Errorf("Wide(%v): got %v and %d, want %d nodes", g, wide, err, want)
	}
	checkApart(t, g, wide, true)
	again, _ := order.Cover(g)
	wideAgain, _ := order.Wide(g)
	if !slices.EqualFunc(cover, again, slices.Equal[[]int]) || !slices.Equal(wide, wideAgain) {
		t.Errorf("Cover or Wide of %v: got %v and %v, and then %v and %v", g, cover, wide, again, wideAgain)
	}
}

func checkCount(t *testing.T, g api.Graph, want uint64) {
	t.Helper()
	if got, err := order.Count(g); err != api.OK || got != want {
		t.Errorf("Count(%v): got %d and %d, want %d", g, got, err, want)
	}
}

// checkError: every function answers want, and nothing beside it.
func checkError(t *testing.T, g api.Graph, want api.Errno) {
	t.Helper()
	if l, err := order.Levels(g); err != want || len(l) != 0 {
		t.Errorf("Levels(%v): got %v and %d, want nothing and %d", g, l, err, want)
	}
	if h, err := order.Height(g); err != want || h != 0 {
		t.Errorf("Height(%v): got %v and %d, want 0 and %d", g, h, err, want)
	}
	if l, err := order.Chain(g); err != want || len(l) != 0 {
		t.Errorf("Chain(%v): got %v and %d, want nothing and %d", g, l, err, want)
	}
	if l, err := order.Cover(g); err != want || len(l) != 0 {
		t.Errorf("Cover(%v): got %v and %d, want nothing and %d", g, l, err, want)
	}
	if l, err := order.Wide(g); err != want || len(l) != 0 {
		t.Errorf("Wide(%v): got %v and %d, want nothing and %d", g, l, err, want)
	}
	if n, err := order.Count(g); err != want || n != 0 {
		t.Errorf("Count(%v): got %v and %d, want 0 and %d", g, n, err, want)
	}
	for _, l := range [][]int{nil, {}, {0}, {1}, {-1}, {0, 1}, {math.MaxInt, math.MinInt}} {
		checkApart(t, g, l, false)
	}
}

// checkC1 holds Levels, Height and Chain against the chapter's own words.
func checkC1(t *testing.T, g api.Graph) {
	t.Helper()
	chain := longest(g)
	checkLevels(t, g, levels(g))
	checkHeight(t, g, len(chain))
	checkChain(t, g, chain)
}

// checkSmall holds every function against the chapter's own words, by trying all that there is.
func checkSmall(t *testing.T, g api.Graph) {
	t.Helper()
	f := follows(g)
	if hasLoop(f) {
		checkError(t, g, api.ErrLoop)
		return
	}
	checkC1(t, g)
	checkWidth(t, g, width(f))
	checkWidth(t, g, fewest(f, 0, nil))
	checkCount(t, g, count(f, nil))
}

func TestErrRange(t *testing.T) {
	for _, g := range beyond() {
		checkError(t, g, api.ErrRange)
	}
}

func TestErrLoop(t *testing.T) {
	for _, g := range loops() {
		checkError(t, g, api.ErrLoop)
	}
}

func TestWithoutNodesOrEdges(t *testing.T) {
	for _, l := range [][]api.Edge{nil, {}, make([]api.Edge, 0, 3)} {
		g := api.Graph{Edges: l}
		checkLevels(t, g, nil)
		checkHeight(t, g, 0)
		checkChain(t, g, nil)
		checkWidth(t, g, 0)
		checkCount(t, g, 1)
		checkApart(t, g, nil, true)
		checkApart(t, g, []int{}, true)
		checkApart(t, g, []int{0}, false)
		g.Nodes = 3
		checkLevels(t, g, []int{0, 0, 0})
		checkHeight(t, g, 1)
		checkChain(t, g, []int{0})
		checkWidth(t, g, 3)
		checkCount(t, g, 6)
		checkApart(t, g, []int{2, 0, 1}, true)
	}
}

func TestLevels(t *testing.T) {
	for _, c := range []struct {
		g    api.Graph
		want []int
	}{
		{of(1), []int{0}},
		{of(2, 1, 0), []int{1, 0}},
		{of(2, 0, 1, 0, 1), []int{0, 1}},
		{of(3, 2, 0, 0, 1, 2, 1), []int{1, 2, 0}},
		{of(4, 0, 3, 0, 1, 1, 2, 2, 3), []int{0, 1, 2, 3}},
		{of(4, 3, 0, 2, 1, 1, 0), []int{2, 1, 0, 0}},
		{of(5, 4, 0, 0, 2, 4, 2, 2, 1, 3, 1), []int{1, 3, 2, 0, 0}},
		{of(6, 0, 3, 1, 3, 3, 4, 0, 4, 0, 4, 2, 5), []int{0, 0, 0, 1, 2, 1}},
	} {
		checkLevels(t, c.g, c.want)
		checkHeight(t, c.g, slices.Max(c.want)+1)
	}
}

func TestChain(t *testing.T) {
	for _, c := range []struct {
		g    api.Graph
		want []int
	}{
		{of(1), []int{0}},
		{of(3, 2, 0, 0, 1), []int{2, 0, 1}},
		{of(4, 2, 3, 1, 0), []int{1, 0}},
		{of(4, 1, 3, 0, 3, 0, 2, 1, 2), []int{0, 2}},
		{of(4, 2, 3, 1, 3, 2, 3), []int{1, 3}},
		{of(4, 1, 3, 2, 3, 0, 1), []int{0, 1, 3}},
		{of(4, 0, 3, 2, 1, 1, 3), []int{2, 1, 3}},                         // 0 leads to 3 too, but from two levels below
		{of(5, 0, 4, 3, 1, 2, 4, 4, 1, 2, 3), []int{2, 3, 1}},             // 0 is smaller than 2, but leads to 4 only
		{of(5, 4, 2, 2, 1, 3, 0, 0, 1), []int{3, 0, 1}},                   // 0 and 2 lead to 1
		{of(5, 0, 3, 2, 4, 1, 2), []int{1, 2, 4}},                         // 3 is smaller than 4, but lower
		{of(6, 0, 3, 1, 3, 3, 4, 0, 4, 0, 4, 2, 5), []int{0, 3, 4}},       // an edge goes past 3, twice
		{of(6, 5, 4, 5, 3, 4, 2, 3, 2, 2, 1, 2, 0), []int{5, 3, 2, 0}},    // the highest level has 0 and 1
		{of(7, 6, 5, 5, 4, 1, 0, 4, 3, 3, 2, 0, 4), []int{1, 0, 4, 3, 2}}, // two ways to 4
	} {
		checkChain(t, c.g, c.want)
		checkHeight(t, c.g, len(c.want))
	}
}

func TestApart(t *testing.T) {
	g := of(6, 0, 3, 1, 3, 3, 4, 0, 4, 2, 5)
	for _, c := range []struct {
		l    []int
		want bool
	}{
		{nil, true}, {[]int{}, true}, {[]int{0}, true}, {[]int{5}, true},
		{[]int{0, 1, 2}, true}, {[]int{2, 1, 0}, true}, {[]int{5, 0, 1}, true}, {[]int{4, 5}, true}, {[]int{3, 2}, true},
		{[]int{0, 3}, false}, {[]int{3, 0}, false}, {[]int{5, 2}, false},
		{[]int{1, 4}, false}, {[]int{4, 1}, false}, // no edge, but a path
		{[]int{0, 1, 2, 5}, false}, {[]int{5, 1, 0, 3}, false},
		{[]int{0, 0}, false}, {[]int{0, 1, 0}, false}, {[]int{2, 4, 4}, false},
		{[]int{6}, false}, {[]int{-1}, false}, {[]int{0, 6}, false}, {[]int{-1, 0}, false}, {[]int{63}, false}, {[]int{64, 0}, false},
		{[]int{api.MaxNumber}, false}, {[]int{api.MaxNumber + 1}, false}, {[]int{math.MaxInt}, false}, {[]int{math.MinInt, 0}, false},
		{make([]int, 1000000), false}, {[]int{0, 1, 2, 3, 4, 5, 6}, false},
	} {
		checkApart(t, g, c.l, c.want)
	}
}

func TestApartEveryList(t *testing.T) {
	for seed := range 20 {
		g := scattered(5, seed%7, seed)
		f := follows(g)
		for i := range 7 * 7 * 7 {
			l := []int{i%7 - 1, i/7%7 - 1, i/49 - 1}
			for n := range 4 {
				checkApart(t, g, l[:n], apart(f, l[:n]))
			}
		}
	}
}

func TestWidth(t *testing.T) {
	for _, c := range []struct {
		g    api.Graph
		want int
	}{
		{of(1), 1},
		{of(2), 2},
		{of(2, 1, 0), 1},
		{of(3, 0, 2, 1, 2), 2},
		{of(4, 0, 2, 0, 3, 1, 2), 2}, // 0 must leave 2 to 1
		{of(4, 1, 3, 1, 2, 0, 3), 2},
		{of(4, 0, 1, 0, 2, 1, 3, 2, 3), 2},
		{of(5, 0, 2, 1, 2, 2, 3, 2, 4), 2}, // one chain must jump over 2
		{of(6, 0, 3, 0, 4, 1, 3, 1, 5, 2, 3), 3},
		{of(6, 0, 3, 1, 3, 3, 4, 0, 4, 0, 4, 2, 5), 3},
		{of(6, 0, 1, 0, 2, 0, 3, 0, 4, 0, 5), 5},
		{of(6, 1, 0, 2, 0, 3, 0, 4, 0, 5, 0), 5},
		{of(7, 0, 3, 1, 3, 2, 3, 3, 4, 3, 5, 3, 6), 3},
		{fence(5), 3},
		{fence(8), 4},
		{rows(12, 3), 3},
		{divisors(30), 15},
	} {
		checkWidth(t, c.g, c.want)
	}
}

func TestWidthOfGreatGraphs(t *testing.T) {
	const n = api.MaxNodes
	checkWidth(t, of(n), n)
	checkWidth(t, line(n), 1)
	checkWidth(t, full(n), 1)
	checkWidth(t, fence(n), n/2)
	checkWidth(t, rows(n, 1), 1)
	checkWidth(t, rows(n, 10), 10)
	checkWidth(t, rows(n, 100), 100)
	checkWidth(t, rows(n, 150), 150)
	checkWidth(t, divisors(n), n/2)
	checkWidth(t, of(n, 199, 0), n-1)
	checkWidth(t, where(n, func(a, b int) bool { return a%8 == b%8 && a < b }), 8)
	checkWidth(t, where(n, func(a, b int) bool { return a < 100 && b >= 100 && b-100 <= a }), 100) // node n has few to choose from, if it is small
	checkWidth(t, where(n, func(a, b int) bool { return a < 100 && b >= 100 && b-100 >= a }), 100)
}

// TestWidthOfScatteredGraphs: a cover and an antichain of one size show each other to be as good as can be.
func TestWidthOfScatteredGraphs(t *testing.T) {
	for seed := range 8 {
		for _, nodes := range []int{64, 65, 129, api.MaxNodes} {
			g := scattered(nodes, nodes*(seed+1)/3, seed)
			cover, _ := order.Cover(g)
			checkWidth(t, g, len(cover))
		}
	}
}

func TestC1OfGreatGraphs(t *testing.T) {
	for _, g := range []api.Graph{
		of(api.MaxNodes), line(api.MaxNodes), full(api.MaxNodes), fence(api.MaxNodes), rows(api.MaxNodes, 7), divisors(api.MaxNodes),
		of(api.MaxNodes, 199, 0, 0, 198),
	} {
		checkC1(t, g)
	}
	for seed := range 10 {
		checkC1(t, scattered(api.MaxNodes, 60*seed, seed))
	}
}

// TestMirsky: the nodes of one level are apart, so that the levels are as few antichains as can be.
func TestMirsky(t *testing.T) {
	for seed := range 10 {
		g := scattered(100, 40*seed, seed)
		l, _ := order.Levels(g)
		h, _ := order.Height(g)
		c, _ := order.Chain(g)
		if len(c) != h {
			t.Errorf("Chain(%v): got %d nodes, want %d", g, len(c), h)
		}
		for level := range h {
			var row []int
			for n := range l {
				if l[n] == level {
					row = append(row, n)
				}
			}
			if len(row) == 0 {
				t.Errorf("Levels(%v): no node has level %d", g, level)
			}
			checkApart(t, g, row, true)
		}
	}
}

func TestCount(t *testing.T) {
	for _, c := range []struct {
		g    api.Graph
		want uint64
	}{
		{of(1), 1},
		{of(2), 2},
		{of(2, 1, 0), 1},
		{of(3, 0, 2, 1, 2), 2},
		{of(3, 1, 0, 1, 2), 2},
		{of(3, 0, 1, 0, 1), 3},
		{of(4, 0, 1, 1, 2, 2, 3), 1},
		{of(4, 0, 1, 2, 3), 6},
		{of(4, 0, 2, 0, 3, 1, 2), 5},
		{of(5, 0, 2, 1, 2, 2, 3, 2, 4), 4},
		{of(6, 0, 3, 1, 3, 3, 4, 0, 4, 0, 4, 2, 5), 30},
	} {
		checkCount(t, c.g, c.want)
	}
}

func TestCountOfFourteenNodes(t *testing.T) {
	checkCount(t, of(14), 87178291200)
	checkCount(t, line(14), 1)
	checkCount(t, full(14), 1)
	checkCount(t, of(14, 13, 0), 43589145600)
	checkCount(t, fence(14), 199360981) // a number of Euler's: the permutations of 14 that go up and down
	checkCount(t, where(14, func(n, m int) bool { return m == n+2 }), 3432)
	checkCount(t, where(14, func(n, m int) bool { return m == n+1 && n%2 == 0 || m == n+2 }), 429) // a number of Catalan's
	checkCount(t, rows(14, 7), 25401600)
}

func TestCountOfMoreNodes(t *testing.T) {
	for _, g := range []api.Graph{of(15), line(15), full(15), of(63), of(64), of(65), of(api.MaxNodes), line(api.MaxNodes)} {
		if got, err := order.Count(g); err != api.ErrRange || got != 0 {
			t.Errorf("Count of %d nodes: got %d and %d, want 0 and %d", g.Nodes, got, err, api.ErrRange)
		}
	}
	for _, g := range []api.Graph{of(15, 14, 14), of(15, 0, 1, 1, 0), of(api.MaxNodes, 7, 7)} {
		checkError(t, g, api.ErrLoop)
	}
}

// TestEverySmallGraph takes every set of edges, loops too, between up to four nodes.
func TestEverySmallGraph(t *testing.T) {
	for nodes := range 5 {
		for edges := range 1 << (nodes * nodes) {
			checkSmall(t, where(nodes, func(n, m int) bool { return edges>>(n*nodes+m)&1 == 1 }))
			if t.Failed() {
				return
			}
		}
	}
}

func TestScatteredGraphs(t *testing.T) {
	for seed := range 60 {
		for _, nodes := range []int{5, 6, 7, 8} {
			checkSmall(t, scattered(nodes, seed%(2*nodes), seed))
		}
	}
}

func TestEdgesOccurManyTimes(t *testing.T) {
	g := of(3)
	for range 100000 {
		g.Edges = append(g.Edges, of(3, 2, 0, 0, 1, 2, 1).Edges...)
	}
	checkLevels(t, g, []int{1, 2, 0})
	checkHeight(t, g, 3)
	checkChain(t, g, []int{2, 0, 1})
	checkWidth(t, g, 1)
	checkCount(t, g, 1)
}

func callAll(g api.Graph, l []int) {
	order.Levels(g)
	order.Height(g)
	order.Chain(g)
	order.Apart(g, l)
	order.Cover(g)
	order.Wide(g)
	order.Count(g)
}

func TestArgumentsStay(t *testing.T) {
	for _, ends := range [][]int{{2, 0, 0, 1, 2, 1}, {2, 0, 2, 1, 2, 1}, {2, 0, 0, 1, 1, 2}, {2, 0, 0, 1, 1, 3}} {
		whole := of(3, append(ends, 7, -7, 0, 0)...).Edges
		list := []int{2, 0, 1, 9, -9}
		edgesBefore, listBefore := slices.Clone(whole), slices.Clone(list)
		for n := range 4 {
			callAll(api.Graph{Nodes: 3, Edges: whole[:3]}, list[:n])
		}
		if !slices.Equal(whole, edgesBefore) || !slices.Equal(list, listBefore) {
			t.Errorf("an argument was changed: got %v and %v, want %v and %v", whole, list, edgesBefore, listBefore)
		}
	}
}

func TestSpareCapacityIsNotRead(t *testing.T) {
	g := of(3, 2, 0, 0, 1, 1, 2, 9, 9)
	for n := range 3 {
		g.Edges = g.Edges[:n]
		checkSmall(t, g)
		g.Edges = g.Edges[:4]
	}
	checkApart(t, of(3), []int{1, 0, 0, 9}[:2], true)
}

// TestResultsAreNew: a result does not change with an argument, nor an argument or the next answer with a result.
func TestResultsAreNew(t *testing.T) {
	g := of(4, 0, 1, 1, 2, 2, 3)
	levelsOf, _ := order.Levels(g)
	chain, _ := order.Chain(g)
	cover, _ := order.Cover(g)
	wide, _ := order.Wide(g)
	clear(g.Edges)
	if !slices.Equal(levelsOf, []int{0, 1, 2, 3}) || !slices.Equal(chain, levelsOf) || len(cover) != 1 || !slices.Equal(cover[0], levelsOf) || len(wide) != 1 {
		t.Errorf("a result changed with the argument: %v %v %v %v", levelsOf, chain, cover, wide)
	}
	g = of(4, 0, 1, 1, 2, 2, 3)
	for _, l := range [][]int{levelsOf, chain, cover[0], wide} {
		for i := range l {
			l[i] = 7
		}
	}
	checkSmall(t, g)
	if !slices.Equal(g.Edges, of(4, 0, 1, 1, 2, 2, 3).Edges) {
		t.Errorf("the argument changed with a result: %v", g.Edges)
	}
}

func TestChainsOfCoverShareNothing(t *testing.T) {
	g := rows(12, 3)
	f := follows(g)
	for i := range 3 {
		cover, _ := order.Cover(g)
		if len(cover) != 3 {
			t.Fatalf("Cover: got %v, want 3 chains", cover)
		}
		kept := slices.Clone(cover[i])
		l := cover[i][:cap(cover[i])] // what an append to the chain would write too
		for j := range l {
			l[j] = math.MinInt
		}
		cover[i] = kept
		if !isCover(f, cover) {
			t.Errorf("chain %d shares memory with another one: %v", i, cover)
		}
	}
}
