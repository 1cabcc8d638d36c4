package greedy_test

import (
	"math"
	"slices"
	"testing"

	"forkwright/api"
	"forkwright/graph"
	"forkwright/greedy"
	"forkwright/order"
)

// of is a graph whose edges are given as From, To, From, To ..
func of(nodes int, ends ...int) api.Graph {
	g := api.Graph{Nodes: nodes}
	for i := 0; i < len(ends); i += 2 {
		g.Edges = append(g.Edges, api.Edge{From: ends[i], To: ends[i+1]})
	}
	return g
}

// where has an edge from n to m wherever leads says so.
func where(nodes int, leads func(n, m int) bool) api.Graph {
	g := api.Graph{Nodes: nodes}
	for n := range nodes {
		for m := range nodes {
			if leads(n, m) {
				g.Edges = append(g.Edges, api.Edge{From: n, To: m})
			}
		}
	}
	return g
}

// line leads from each node to the one below it.
func line(nodes int) api.Graph {
	return where(nodes, func(n, m int) bool { return n == m+1 })
}

// full leads from each node to each one below it.
func full(nodes int) api.Graph {
	return where(nodes, func(n, m int) bool { return n > m })
}

// rows leads from each node of a row to each one of the next row.
func rows(nodes, width int) api.Graph {
	return where(nodes, func(n, m int) bool { return m/width == n/width+1 })
}

// tree leads from each node to the two that stand below it in a heap.
func tree(nodes int) api.Graph {
	return where(nodes, func(n, m int) bool { return m == 2*n+1 || m == 2*n+2 })
}

// turned has all edges of g the other way round.
func turned(g api.Graph) api.Graph {
	g.Edges = slices.Clone(g.Edges)
	for i, e := range g.Edges {
		g.Edges[i] = api.Edge{From: e.To, To: e.From}
	}
	return g
}

// scattered has edges by a fixed rule, each from a number to a greater one, where the numbers of the nodes are mixed.
func scattered(nodes, edges, seed int) api.Graph {
	g := api.Graph{Nodes: nodes}
	place := func(n int) int { return (n*11 + seed) % nodes } // 11 divides no number of nodes that is asked for here
	x := uint32(seed)
	for range edges {
		x = x*1664525 + 1013904223
		a, b := int(x>>8)%nodes, int(x>>16)%nodes
		if a != b {
			g.Edges = append(g.Edges, api.Edge{From: place(min(a, b)), To: place(max(a, b))})
		}
	}
	return g
}

// great are graphs of as many nodes as there may be.
func great() []api.Graph {
	const n = api.MaxNodes
	l := []api.Graph{
		of(n), of(n, n-1, 0, 0, n-2), line(n), turned(line(n)), full(n), turned(full(n)),
		rows(n, 7), turned(rows(n, 7)), rows(n, 17), rows(n, 100), tree(n), turned(tree(n)),
	}
	for seed := range 10 {
		l = append(l, scattered(n, 40*seed, seed))
	}
	return l
}

// rounds tells by the chapter's own words what is executed in each round; it answers false if some nodes never are.
func rounds(g api.Graph, workers int) ([][]int, bool) {
	before := make([][]int, g.Nodes)
	for _, e := range g.Edges {
		before[e.To] = append(before[e.To], e.From)
	}
	var all [][]int
	done := make([]bool, g.Nodes)
	for slices.Contains(done, false) {
		round := smallestReady(before, done, workers)
		if len(round) == 0 {
			return nil, false
		}
		for _, n := range round {
			done[n] = true
		}
		all = append(all, round)
	}
	return all, true
}

func smallestReady(before [][]int, done []bool, workers int) []int {
	var l []int
	waitsFor := func(m int) bool { return !done[m] }
	for n := range done {
		if len(l) < workers && !done[n] && !slices.ContainsFunc(before[n], waitsFor) {
			l = append(l, n)
		}
	}
	return l
}

func same(a, b [][]int) bool {
	return slices.EqualFunc(a, b, slices.Equal[[]int])
}

func checkRounds(t *testing.T, g api.Graph, workers int, want [][]int) {
	t.Helper()
	if got, err := greedy.Rounds(g, workers); err != api.OK || !same(got, want) {
		t.Errorf("Rounds(%v, %d): got %v and %d, want %v", g, workers, got, err, want)
	}
}

// checkError: the call answers want, and nothing beside it.
func checkError(t *testing.T, g api.Graph, workers int, want api.Errno) {
	t.Helper()
	if got, err := greedy.Rounds(g, workers); err != want || len(got) != 0 {
		t.Errorf("Rounds(%v, %d): got %v and %d, want nothing and %d", g, workers, got, err, want)
	}
}

// check holds the answer against the chapter's own words, loops too.
func check(t *testing.T, g api.Graph, workers int) {
	t.Helper()
	want, ends := rounds(g, workers)
	if !ends {
		checkError(t, g, workers, api.ErrLoop)
		return
	}
	checkRounds(t, g, workers, want)
}

// wrongWorkers are numbers of workers that must not be.
func wrongWorkers() []int {
	return []int{0, -1, -2, -api.MaxWorkers, api.MaxWorkers + 1, api.MaxWorkers + 2, api.MaxNodes, 1 << 32, math.MinInt, math.MinInt + 1, math.MaxInt}
}

// beyond: too many nodes, too few, and edges whose ends are none.
func beyond() []api.Graph {
	return []api.Graph{
		of(-1), of(math.MinInt), of(api.MaxNodes + 1), of(math.MaxInt), of(0, 0, 0), of(1, 0, 1), of(1, -1, 0), of(2, 1, -1),
		of(2, 0, 1, 1, 2), of(2, math.MinInt, math.MaxInt), of(2, 0, 1, 1, 0, 2, 0), of(api.MaxNodes+1, 0, 0), of(api.MaxNodes, 0, api.MaxNodes),
	}
}

// loops: round and round, long and short, with nodes ahead of them that could be executed.
func loops() []api.Graph {
	round := line(api.MaxNodes)
	round.Edges = append(round.Edges, api.Edge{From: 0, To: api.MaxNodes - 1})
	return []api.Graph{
		of(1, 0, 0), of(2, 0, 1, 1, 0), of(3, 0, 1, 1, 2, 2, 0), of(4, 0, 1, 2, 2), of(5, 3, 4, 0, 1, 4, 3), of(4, 0, 1, 1, 2, 2, 1, 2, 3), round,
	}
}

func TestWrongGraph(t *testing.T) {
	for workers := 1; workers <= api.MaxWorkers; workers++ {
		for _, g := range beyond() {
			checkError(t, g, workers, api.ErrRange)
		}
		for _, g := range loops() {
			checkError(t, g, workers, api.ErrLoop)
		}
	}
}

func TestWrongWorkers(t *testing.T) {
	for _, workers := range wrongWorkers() {
		for _, g := range []api.Graph{{}, of(1), of(4, 2, 0), line(20), of(api.MaxNodes), full(api.MaxNodes)} {
			checkError(t, g, workers, api.ErrRange)
		}
	}
}

// TestWrongGraphAndWorkers: what is wrong with the graph is told first.
func TestWrongGraphAndWorkers(t *testing.T) {
	for _, workers := range wrongWorkers() {
		for _, g := range loops() {
			checkError(t, g, workers, api.ErrLoop)
		}
		for _, g := range beyond() {
			checkError(t, g, workers, api.ErrRange)
		}
	}
}

func TestWithoutNodesOrEdges(t *testing.T) {
	for _, l := range [][]api.Edge{nil, {}, make([]api.Edge, 0, 3)} {
		for workers := 1; workers <= api.MaxWorkers; workers++ {
			checkRounds(t, api.Graph{Edges: l}, workers, nil)
			checkRounds(t, api.Graph{Nodes: 1, Edges: l}, workers, [][]int{{0}})
		}
		checkRounds(t, api.Graph{Nodes: 3, Edges: l}, 1, [][]int{{0}, {1}, {2}})
		checkRounds(t, api.Graph{Nodes: 3, Edges: l}, 2, [][]int{{0, 1}, {2}})
		checkRounds(t, api.Graph{Nodes: 3, Edges: l}, 3, [][]int{{0, 1, 2}})
		checkRounds(t, api.Graph{Nodes: 3, Edges: l}, api.MaxWorkers, [][]int{{0, 1, 2}})
	}
}

// TestExample: four nodes, one of which follows another one. Where two smaller nodes than that other one are ready
// ahead of it, the rule that the smallest ones are executed makes a third round.
func TestExample(t *testing.T) {
	for n := range 4 {
		for m := range 4 {
			if n == m {
				continue
			}
			want := 2
			if n == 3 || n == 2 && m == 3 {
				want = 3
			}
			if got, err := greedy.Rounds(of(4, n, m), 2); err != api.OK || len(got) != want {
				t.Errorf("Rounds with an edge from %d to %d: got %v and %d, want %d rounds", n, m, got, err, want)
			}
		}
	}
}

func TestRounds(t *testing.T) {
	for _, c := range []struct {
		g       api.Graph
		workers int
		want    [][]int
	}{
		{of(4, 0, 1), 2, [][]int{{0, 2}, {1, 3}}},
		{of(4, 3, 0), 2, [][]int{{1, 2}, {3}, {0}}}, // the smallest come first, not those that others wait for
		{of(4, 1, 0), 3, [][]int{{1, 2, 3}, {0}}},
		{of(3, 2, 0, 0, 1, 2, 1), 16, [][]int{{2}, {0}, {1}}},
		{of(2, 1, 0), 2, [][]int{{1}, {0}}},                             // the second worker waits until 1 has been executed
		{of(3, 1, 0), 1, [][]int{{1}, {0}, {2}}},                        // 0 becomes ready later than 2, and is smaller
		{of(5, 1, 0), 2, [][]int{{1, 2}, {0, 3}, {4}}},                  // for two workers too
		{of(4, 0, 2, 0, 3, 1, 2), 2, [][]int{{0, 1}, {2, 3}}},           // 2 waits for both
		{of(4, 0, 2, 0, 3, 1, 2), 1, [][]int{{0}, {1}, {2}, {3}}},       // 3 is ready ahead of 2
		{of(4, 0, 3, 0, 1, 2, 3), 1, [][]int{{0}, {1}, {2}, {3}}},       // 3 waits for the later one
		{of(4, 0, 1, 0, 2, 1, 3, 2, 3), 1, [][]int{{0}, {1}, {2}, {3}}}, // 1 and 2 could be executed at once
		{of(4, 0, 1, 0, 2, 1, 3, 2, 3), 2, [][]int{{0}, {1, 2}, {3}}},
		{of(6, 0, 3, 1, 3, 3, 4, 0, 4, 0, 4, 2, 5), 2, [][]int{{0, 1}, {2, 3}, {4, 5}}}, // an edge goes past 3, twice
		{of(6, 0, 3, 1, 3, 3, 4, 0, 4, 0, 4, 2, 5), 3, [][]int{{0, 1, 2}, {3, 5}, {4}}},
		{of(6, 5, 4, 4, 3, 3, 2, 2, 1, 1, 0), 4, [][]int{{5}, {4}, {3}, {2}, {1}, {0}}},
		{of(6, 5, 0, 5, 1, 5, 2, 5, 3, 5, 4), 3, [][]int{{5}, {0, 1, 2}, {3, 4}}},
		{of(6, 1, 0, 2, 0, 3, 0, 4, 0, 5, 0), 3, [][]int{{1, 2, 3}, {4, 5}, {0}}},
		{of(7, 6, 0, 5, 1), 2, [][]int{{2, 3}, {4, 5}, {1, 6}, {0}}},
		{of(12, 2, 10, 2, 9, 11, 1), 4, [][]int{{0, 2, 3, 4}, {5, 6, 7, 8}, {9, 10, 11}, {1}}}, // by their numbers, not by their digits
	} {
		checkRounds(t, c.g, c.workers, c.want)
	}
}

func TestAsManyAsThereAreWorkers(t *testing.T) {
	for nodes := range 40 {
		for workers := 1; workers <= api.MaxWorkers; workers++ {
			all := make([]int, nodes)
			for n := range all {
				all[n] = n
			}
			checkRounds(t, of(nodes), workers, slices.Collect(slices.Chunk(all, workers)))
		}
	}
}

// TestEverySmallGraph takes every set of edges, loops too, between up to four nodes.
func TestEverySmallGraph(t *testing.T) {
	for nodes := range 5 {
		for edges := range 1 << (nodes * nodes) {
			g := where(nodes, func(n, m int) bool { return edges>>(n*nodes+m)&1 == 1 })
			for workers := 1; workers <= nodes+1; workers++ {
				check(t, g, workers)
			}
			if t.Failed() {
				return
			}
		}
	}
}

func TestScatteredGraphs(t *testing.T) {
	for seed := range 60 {
		for _, nodes := range []int{5, 9, 30, 64, 65, 129} {
			for _, workers := range []int{1, 2, 3, 5, 15, api.MaxWorkers} {
				check(t, scattered(nodes, nodes*(seed%9)/4, seed), workers)
			}
		}
	}
}

func TestGreatGraphs(t *testing.T) {
	for _, g := range great() {
		for workers := 1; workers <= api.MaxWorkers; workers++ {
			check(t, g, workers)
		}
	}
}

func TestEdgesOccurManyTimes(t *testing.T) {
	g := of(4)
	for range 100000 {
		g.Edges = append(g.Edges, of(4, 2, 0, 0, 1, 2, 1).Edges...)
	}
	checkRounds(t, g, 1, [][]int{{2}, {0}, {1}, {3}})
	checkRounds(t, g, 2, [][]int{{2, 3}, {0}, {1}})
}

// TestOneWorker goes in the order of chapter 2.
func TestOneWorker(t *testing.T) {
	for _, g := range great() {
		sorted, _ := graph.Sort(g)
		checkRounds(t, g, 1, slices.Collect(slices.Chunk(sorted, 1)))
	}
}

// TestEnoughWorkers: if no round has more nodes than there are workers, the rounds are the levels of chapter 3.
func TestEnoughWorkers(t *testing.T) {
	const n = api.MaxNodes
	for _, g := range []api.Graph{
		line(n), turned(line(n)), full(n), rows(n, 1), rows(n, 7), turned(rows(n, 10)), rows(n, api.MaxWorkers), tree(31), turned(tree(31)), of(16, 3, 9), of(10),
	} {
		levels, _ := order.Levels(g)
		height, _ := order.Height(g)
		want := make([][]int, height)
		for n, level := range levels {
			want[level] = append(want[level], n)
		}
		checkRounds(t, g, api.MaxWorkers, want)
	}
}

// TestBounds: as few rounds as the longest chain and the number of nodes allow, and no more than those of Brent and Graham.
func TestBounds(t *testing.T) {
	for _, g := range great() {
		height, _ := order.Height(g)
		for workers := 1; workers <= api.MaxWorkers; workers++ {
			got, _ := greedy.Rounds(g, workers)
			least := max(height, (g.Nodes+workers-1)/workers)
			most := height + (g.Nodes-height)/workers
			if len(got) < least || len(got) > most {
				t.Errorf("Rounds(%v, %d): got %d rounds, want %d to %d", g, workers, len(got), least, most)
			}
		}
	}
}

// TestClosureAndCore: the closure and the reduction of a graph have the rounds of the graph itself.
func TestClosureAndCore(t *testing.T) {
	for _, g := range great() {
		closure, _ := graph.Closure(g)
		core, _ := graph.Core(g)
		for _, workers := range []int{1, 2, 7, api.MaxWorkers} {
			want, _ := greedy.Rounds(g, workers)
			checkRounds(t, closure, workers, want)
			checkRounds(t, core, workers, want)
		}
	}
}

func TestArgumentStays(t *testing.T) {
	for _, ends := range [][]int{{2, 1, 2, 0, 0, 1}, {0, 1, 2, 1, 2, 0}, {2, 0, 2, 0, 0, 1}, {2, 0, 0, 1, 1, 2}, {2, 1, 0, 1, 1, 3}} {
		whole := of(3, append(ends, 7, -7, 0, 0)...).Edges
		kept := slices.Clone(whole)
		for n := range whole {
			for workers := range api.MaxWorkers + 2 {
				greedy.Rounds(api.Graph{Nodes: 3, Edges: whole[:n]}, workers)
			}
		}
		if !slices.Equal(whole, kept) {
			t.Errorf("the argument was changed: got %v, want %v", whole, kept)
		}
	}
}

func TestSpareCapacityIsNotRead(t *testing.T) {
	g := of(3, 2, 0, 0, 1, 1, 2, 9, 9)
	for n := range 3 {
		g.Edges = g.Edges[:n]
		for workers := 1; workers < 5; workers++ {
			check(t, g, workers)
		}
	}
}

// TestResultsAreNew: a result does not change with the argument, nor the argument or the next answer with a result.
func TestResultsAreNew(t *testing.T) {
	g := of(5, 4, 0, 0, 1)
	want := [][]int{{2, 3}, {4}, {0}, {1}}
	got, _ := greedy.Rounds(g, 2)
	clear(g.Edges)
	if !same(got, want) {
		t.Errorf("the result changed with the argument: got %v, want %v", got, want)
	}
	g = of(5, 4, 0, 0, 1)
	for _, l := range got {
		clear(l[:cap(l)])
	}
	clear(got[:cap(got)])
	checkRounds(t, g, 2, want)
	if !slices.Equal(g.Edges, of(5, 4, 0, 0, 1).Edges) {
		t.Errorf("the argument changed with a result: %v", g.Edges)
	}
}

func TestRoundsShareNothing(t *testing.T) {
	g := rows(40, 7)
	for workers := 1; workers <= api.MaxWorkers; workers++ {
		want, _ := rounds(g, workers)
		for i := range want {
			got, _ := greedy.Rounds(g, workers)
			if len(got) != len(want) {
				t.Fatalf("Rounds: got %v, want %v", got, want)
			}
			kept := slices.Clone(got[i])
			l := got[i][:cap(got[i])] // what an append to the round would write too
			for j := range l {
				l[j] = math.MinInt
			}
			got[i] = kept
			if !same(got, want) {
				t.Errorf("round %d shares memory with another one: %v", i, got)
			}
		}
	}
}
