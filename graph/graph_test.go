package graph_test

import (
	"math"
	"slices"
	"testing"

	"forkwright/api"
	"forkwright/bitset"
	"forkwright/graph"
)

// of is a graph whose edges are given as From, To, From, To ..
func of(nodes int, ends ...int) api.Graph {
	g := api.Graph{Nodes: nodes}
	for i := 0; i < len(ends); i += 2 {
		g.Edges = append(g.Edges, api.Edge{From: ends[i], To: ends[i+1]})
	}
	return g
}

// chain leads from each node to the one below it.
func chain(nodes int) api.Graph {
	g := api.Graph{Nodes: nodes}
	for n := nodes - 1; n > 0; n-- {
		g.Edges = append(g.Edges, api.Edge{From: n, To: n - 1})
	}
	return g
}

// full leads from each node to each one below it.
func full(nodes int) api.Graph {
	g := api.Graph{Nodes: nodes}
	for n := range nodes {
		for m := range n {
			g.Edges = append(g.Edges, api.Edge{From: n, To: m})
		}
	}
	return g
}

// scattered is a graph without a loop whose edges come from a fixed rule; every edge leads up in an order that is not that of the numbers.
func scattered(nodes, edges, seed int) api.Graph {
	g := api.Graph{Nodes: nodes}
	place := func(n int) int { return (n*7 + seed) % nodes } // 7 divides no number of nodes that is asked for here
	x := uint64(seed)
	next := func() int {
		x = x*6364136223846793005 + 1442695040888963407
		return int(x>>33) % nodes
	}
	for range edges {
		a, b := next(), next()
		if a != b {
			g.Edges = append(g.Edges, api.Edge{From: place(min(a, b)), To: place(max(a, b))})
		}
	}
	return g
}

// paths tells by the chapter's own words which node is followed by which.
func paths(g api.Graph) [][]bool {
	p := make([][]bool, g.Nodes)
	for i := range p {
		p[i] = make([]bool, g.Nodes)
	}
	for _, e := range g.Edges {
		p[e.From][e.To] = true
	}
	for k := range p {
		for i := range p {
			for j := range p {
				p[i][j] = p[i][j] || p[i][k] && p[k][j]
			}
		}
	}
	return p
}

func loops(p [][]bool) bool {
	for n := range p {
		if p[n][n] {
			return true
		}
	}
	return false
}

// sorted appends the smallest node that may come next until none is left.
func sorted(g api.Graph) []int {
	var order []int
	for len(order) < g.Nodes {
		for n := 0; ; n++ {
			if !slices.Contains(order, n) && ready(g, order, n) {
				order = append(order, n)
				break
			}
		}
	}
	return order
}

func ready(g api.Graph, order []int, n int) bool {
	for _, e := range g.Edges {
		if e.To == n && !slices.Contains(order, e.From) {
			return false
		}
	}
	return true
}

func closure(p [][]bool) []api.Edge {
	var l []api.Edge
	for i := range p {
		for j := range p {
			if p[i][j] {
				l = append(l, api.Edge{From: i, To: j})
			}
		}
	}
	return l
}

func core(p [][]bool) []api.Edge {
	return slices.DeleteFunc(closure(p), func(e api.Edge) bool {
		for m := range p {
			if p[e.From][m] && p[m][e.To] {
				return true
			}
		}
		return false
	})
}

func checkSort(t *testing.T, g api.Graph, want []int) {
	t.Helper()
	if got, err := graph.Sort(g); err != api.OK || !slices.Equal(got, want) {
		t.Errorf("Sort(%v): got %v and %d, want %v", g, got, err, want)
	}
}

func checkBehind(t *testing.T, g api.Graph, want [][]uint64) {
	t.Helper()
	got, err := graph.Behind(g)
	if err != api.OK || !slices.EqualFunc(got, want, slices.Equal[[]uint64]) {
		t.Errorf("Behind(%v): got %v and %d, want %v", g, got, err, want)
	}
}

func checkGraph(t *testing.T, what string, got api.Graph, err api.Errno, nodes int, want []api.Edge) {
	t.Helper()
	if err != api.OK || got.Nodes != nodes || !slices.Equal(got.Edges, want) {
		t.Errorf("%s: got %v and %d, want %d nodes and %v", what, got, err, nodes, want)
	}
}

func checkClosure(t *testing.T, g api.Graph, want []api.Edge) {
	t.Helper()
	got, err := graph.Closure(g)
	checkGraph(t, "Closure", got, err, g.Nodes, want)
}

func checkCore(t *testing.T, g api.Graph, want []api.Edge) {
	t.Helper()
	got, err := graph.Core(g)
	checkGraph(t, "Core", got, err, g.Nodes, want)
}

// checkError: every function answers want, and nothing beside it.
func checkError(t *testing.T, g api.Graph, want api.Errno) {
	t.Helper()
	if got := graph.Wrong(g); got != want {
		t.Errorf("Wrong(%v): got %d, want %d", g, got, want)
	}
	if l, err := graph.Sort(g); err != want || len(l) != 0 {
		t.Errorf("Sort(%v): got %v and %d, want nothing and %d", g, l, err, want)
	}
	if l, err := graph.Behind(g); err != want || len(l) != 0 {
		t.Errorf("Behind(%v): got %v and %d, want nothing and %d", g, l, err, want)
	}
	if c, err := graph.Closure(g); err != want || c.Nodes != 0 || len(c.Edges) != 0 {
		t.Errorf("Closure(%v): got %v and %d, want nothing and %d", g, c, err, want)
	}
	if c, err := graph.Core(g); err != want || c.Nodes != 0 || len(c.Edges) != 0 {
		t.Errorf("Core(%v): got %v and %d, want nothing and %d", g, c, err, want)
	}
}

// checkAll holds every function against the chapter's own words.
func checkAll(t *testing.T, g api.Graph) {
	t.Helper()
	p := paths(g)
	if loops(p) {
		checkError(t, g, api.ErrLoop)
		return
	}
	if err := graph.Wrong(g); err != api.OK {
		t.Errorf("Wrong(%v): got %d", g, err)
	}
	checkSort(t, g, sorted(g))
	var behind [][]uint64
	for _, row := range p {
		var l []int
		for m, follows := range row {
			if follows {
				l = append(l, m)
			}
		}
		behind = append(behind, bitset.Of(l))
	}
	checkBehind(t, g, behind)
	checkClosure(t, g, closure(p))
	checkCore(t, g, core(p))
}

func TestWrongRange(t *testing.T) {
	for _, g := range []api.Graph{
		of(-1), of(math.MinInt), of(api.MaxNodes + 1), of(math.MaxInt),
		of(-1, 0, 0), of(api.MaxNodes+1, 0, 1), of(0, 0, 0), of(0, -1, -1),
		of(1, 0, 1), of(1, 1, 0), of(2, -1, 1), of(2, 1, -1), of(2, 0, 2), of(2, 2, 0),
		of(3, 0, 1, 1, 2, 2, 3), of(3, 0, 1, 3, 2),
		of(2, math.MinInt, 0), of(2, 0, math.MaxInt), of(2, math.MaxInt, math.MinInt),
		of(api.MaxNodes, 0, api.MaxNodes), of(api.MaxNodes, api.MaxNodes, 0),
	} {
		checkError(t, g, api.ErrRange)
	}
}

func TestWrongLoop(t *testing.T) {
	for _, g := range []api.Graph{
		of(1, 0, 0), of(2, 0, 1, 1, 1), of(2, 0, 0, 0, 1), of(2, 0, 1, 1, 0), of(3, 0, 1, 1, 2, 2, 0),
		of(4, 0, 1, 1, 2, 2, 1, 2, 3), of(5, 3, 4, 4, 3), of(3, 0, 1, 0, 1, 1, 0, 1, 2),
		of(api.MaxNodes, 199, 199), of(api.MaxNodes, 0, 199, 199, 0),
	} {
		checkError(t, g, api.ErrLoop)
	}
	round := chain(api.MaxNodes)
	round.Edges = append(round.Edges, api.Edge{From: 0, To: api.MaxNodes - 1})
	checkError(t, round, api.ErrLoop)
}

func TestWrongRangeBeforeLoop(t *testing.T) {
	for _, g := range []api.Graph{
		of(2, 0, 1, 1, 0, 0, 2), of(1, 0, 0, -1, 0), of(-1, 0, 0), of(201, 5, 5), of(2, 2, 2), of(0, 0, 0),
	} {
		checkError(t, g, api.ErrRange)
	}
}

func TestWrongNot(t *testing.T) {
	for _, g := range []api.Graph{
		{}, {Edges: []api.Edge{}}, of(1), of(2, 0, 1), of(2, 1, 0), of(2, 0, 1, 0, 1), of(4, 0, 1, 0, 2, 1, 3, 2, 3),
		of(api.MaxNodes), of(api.MaxNodes, 0, 199), of(api.MaxNodes, 199, 0), chain(api.MaxNodes), full(api.MaxNodes),
	} {
		if got := graph.Wrong(g); got != api.OK {
			t.Errorf("Wrong(%v): got %d", g, got)
		}
	}
}

func TestWithoutNodesOrEdges(t *testing.T) {
	for _, l := range [][]api.Edge{nil, {}, make([]api.Edge, 0, 3)} {
		none := api.Graph{Edges: l}
		checkSort(t, none, nil)
		checkBehind(t, none, nil)
		checkClosure(t, none, nil)
		checkCore(t, none, nil)
		three := api.Graph{Nodes: 3, Edges: l}
		checkSort(t, three, []int{0, 1, 2})
		checkBehind(t, three, [][]uint64{nil, nil, nil})
		checkClosure(t, three, nil)
		checkCore(t, three, nil)
	}
}

func TestSort(t *testing.T) {
	for _, c := range []struct {
		g    api.Graph
		want []int
	}{
		{of(3, 2, 0, 0, 1), []int{2, 0, 1}},
		{of(3, 0, 1, 2, 0, 0, 1, 2, 0), []int{2, 0, 1}},
		{of(1), []int{0}},
		{of(2, 1, 0), []int{1, 0}},
		{of(4, 0, 3, 2, 1), []int{0, 2, 1, 3}},
		{of(4, 3, 0), []int{1, 2, 3, 0}},
		{of(5, 4, 0, 1, 2), []int{1, 2, 3, 4, 0}},
		{of(5, 1, 0, 1, 4, 4, 2), []int{1, 0, 3, 4, 2}},
		{of(6, 5, 0, 5, 1, 4, 2), []int{3, 4, 2, 5, 0, 1}},
	} {
		checkSort(t, c.g, c.want)
	}
}

func TestBehind(t *testing.T) {
	for _, c := range []struct {
		g    api.Graph
		want [][]uint64
	}{
		{of(1), [][]uint64{nil}},
		{of(3, 2, 0, 0, 1), [][]uint64{{2}, nil, {3}}},
		{of(3, 0, 1, 1, 2, 0, 1), [][]uint64{{6}, {4}, nil}},
		{of(4, 0, 1, 0, 2, 1, 3, 2, 3), [][]uint64{{14}, {8}, {8}, nil}},
		{of(4, 3, 1), [][]uint64{nil, nil, nil, {2}}},
	} {
		checkBehind(t, c.g, c.want)
	}
}

func TestBehindAtTheEdgesOfWords(t *testing.T) {
	want := make([][]uint64, 66)
	want[63], want[64], want[65] = []uint64{1, 3}, []uint64{1}, []uint64{1, 1}
	checkBehind(t, of(66, 65, 64, 64, 0, 63, 65), want)
	want = make([][]uint64, api.MaxNodes)
	want[0], want[128] = []uint64{0, 1 << 63, 1, 1 << 7}, []uint64{0, 1 << 63, 0, 1 << 7}
	want[127] = []uint64{0, 0, 0, 1 << 7}
	checkBehind(t, of(api.MaxNodes, 0, 128, 128, 127, 127, 199), want)
}

func TestClosure(t *testing.T) {
	for _, c := range []struct {
		g    api.Graph
		want []api.Edge
	}{
		{of(1), nil},
		{of(2, 1, 0), of(2, 1, 0).Edges},
		{of(2, 0, 1, 0, 1, 0, 1), of(2, 0, 1).Edges},
		{of(3, 2, 0, 0, 1), of(3, 0, 1, 2, 0, 2, 1).Edges},
		{of(4, 2, 3, 1, 2, 0, 1), of(4, 0, 1, 0, 2, 0, 3, 1, 2, 1, 3, 2, 3).Edges},
		{of(4, 3, 2, 3, 1, 0, 2, 3, 1), of(4, 0, 2, 3, 1, 3, 2).Edges},
		{of(5, 0, 4, 4, 1, 1, 3), of(5, 0, 1, 0, 3, 0, 4, 1, 3, 4, 1, 4, 3).Edges},
	} {
		checkClosure(t, c.g, c.want)
	}
}

func TestCore(t *testing.T) {
	for _, c := range []struct {
		g    api.Graph
		want []api.Edge
	}{
		{of(1), nil},
		{of(2, 1, 0), of(2, 1, 0).Edges},
		{of(2, 0, 1, 0, 1, 0, 1), of(2, 0, 1).Edges},
		{of(3, 2, 0, 0, 1, 2, 1), of(3, 0, 1, 2, 0).Edges},
		{of(4, 2, 3, 1, 3, 1, 2, 0, 3, 0, 1, 0, 2), of(4, 0, 1, 1, 2, 2, 3).Edges},
		{of(4, 2, 3, 1, 3, 0, 2, 0, 1), of(4, 0, 1, 0, 2, 1, 3, 2, 3).Edges},
		{of(4, 0, 1, 0, 2, 1, 3, 2, 3, 0, 3), of(4, 0, 1, 0, 2, 1, 3, 2, 3).Edges},
		{of(5, 0, 4, 4, 1, 1, 3, 0, 3), of(5, 0, 4, 1, 3, 4, 1).Edges},
	} {
		checkCore(t, c.g, c.want)
	}
}

// TestEverySmallGraph takes every set of edges, loops too, between up to four nodes.
func TestEverySmallGraph(t *testing.T) {
	for nodes := range 5 {
		for edges := range 1 << (nodes * nodes) {
			g := api.Graph{Nodes: nodes}
			for i := range nodes * nodes {
				if edges>>i&1 == 1 {
					g.Edges = append(g.Edges, api.Edge{From: i / nodes, To: i % nodes})
				}
			}
			checkAll(t, g)
			if t.Failed() {
				return
			}
		}
	}
}

func TestScatteredGraphs(t *testing.T) {
	for seed := range 40 {
		for _, nodes := range []int{5, 9, 30, 64, 65} {
			checkAll(t, scattered(nodes, nodes*(seed%5)/2, seed))
		}
	}
	for seed := range 3 {
		checkAll(t, scattered(129, 300, seed))
		checkAll(t, scattered(api.MaxNodes, 150+100*seed, seed))
	}
}

func TestGreatGraphs(t *testing.T) {
	checkAll(t, chain(api.MaxNodes))
	checkAll(t, full(api.MaxNodes))
	checkAll(t, of(api.MaxNodes, 199, 0, 0, 198))
}

func TestEdgesOccurManyTimes(t *testing.T) {
	g := of(3)
	for range 100000 {
		g.Edges = append(g.Edges, of(3, 2, 0, 0, 1, 2, 1).Edges...)
	}
	checkSort(t, g, []int{2, 0, 1})
	checkBehind(t, g, [][]uint64{{2}, nil, {3}})
	checkClosure(t, g, of(3, 0, 1, 2, 0, 2, 1).Edges)
	checkCore(t, g, of(3, 0, 1, 2, 0).Edges)
}

// TestClosureAndCoreAgree: each holds what the other is made of.
func TestClosureAndCoreAgree(t *testing.T) {
	for seed := range 10 {
		g := scattered(100, 60*seed, seed)
		c, _ := graph.Closure(g)
		k, _ := graph.Core(g)
		checkClosure(t, c, c.Edges)
		checkClosure(t, k, c.Edges)
		checkCore(t, c, k.Edges)
		checkCore(t, k, k.Edges)
	}
}

func TestArgumentsStay(t *testing.T) {
	for _, l := range [][]int{{2, 0, 0, 1, 2, 1}, {2, 0, 0, 1, 1, 2}, {2, 0, 0, 1, 1, 3}} {
		whole := of(3, append(l, 7, -7, 0, 0)...)
		before := slices.Clone(whole.Edges)
		g := api.Graph{Nodes: 3, Edges: whole.Edges[:3]}
		graph.Wrong(g)
		graph.Sort(g)
		graph.Behind(g)
		graph.Closure(g)
		graph.Core(g)
		if !slices.Equal(whole.Edges, before) {
			t.Errorf("an argument was changed: got %v, want %v", whole.Edges, before)
		}
	}
}

func TestSpareCapacityIsNotRead(t *testing.T) {
	g := of(3, 2, 0, 0, 1, 1, 2, 9, 9)
	g.Edges = g.Edges[:2]
	checkAll(t, g)
	g.Edges = g.Edges[:0]
	checkAll(t, g)
}

// TestResultsAreNew: neither the argument nor another part of a result changes with a result.
func TestResultsAreNew(t *testing.T) {
	g := of(4, 0, 1, 1, 2, 2, 3)
	l, _ := graph.Sort(g)
	b, _ := graph.Behind(g)
	c, _ := graph.Closure(g)
	k, _ := graph.Core(g)
	clear(g.Edges)
	if !slices.Equal(l, []int{0, 1, 2, 3}) || len(b) != 4 || b[0][0] != 14 {
		t.Errorf("a result changed with the argument: %v %v", l, b)
	}
	checkGraph(t, "Closure after its argument changed", c, api.OK, 4, of(4, 0, 1, 0, 2, 0, 3, 1, 2, 1, 3, 2, 3).Edges)
	checkGraph(t, "Core after its argument changed", k, api.OK, 4, of(4, 0, 1, 1, 2, 2, 3).Edges)
	g = of(4, 0, 1, 1, 2, 2, 3)
	k, _ = graph.Core(g)
	clear(k.Edges)
	if !slices.Equal(g.Edges, of(4, 0, 1, 1, 2, 2, 3).Edges) {
		t.Errorf("the argument changed with a result: %v", g.Edges)
	}
	checkAll(t, g)
}

func TestSetsOfBehindAreApart(t *testing.T) {
	// The nodes 0 and 1 are followed by the same, and each has one edge only: sets that could be handed on.
	for n := range 5 {
		g := of(5, 0, 2, 1, 2, 2, 3, 3, 4)
		b, _ := graph.Behind(g)
		for i := range b[n] {
			b[n][i] = math.MaxUint64
		}
		want := [][]uint64{{28}, {28}, {24}, {16}, nil}
		b[n], want[n] = nil, nil
		if !slices.EqualFunc(b, want, slices.Equal[[]uint64]) {
			t.Errorf("set %d shares memory with another: got %v, want %v", n, b, want)
		}
		checkAll(t, g)
	}
}
