package sp_test

import (
	"math"
	"math/big"
	"reflect"
	"slices"
	"strconv"
	"strings"
	"testing"

	"forkwright/api"
	"forkwright/graph"
	"forkwright/order"
	"forkwright/sp"
)

// deepest is how many levels of nesting the document allows.
const deepest = 1 << 16

// one is a leaf that is told by its label.
func one(label int) api.Term {
	return api.Term{Kind: api.TermOne, Access: api.Access{Cell: label % 8, Write: label%3 == 0, Label: label}}
}

func both(kind int, left, right api.Term) api.Term {
	return api.Term{Kind: kind, Kids: []api.Term{left, right}}
}

// seq puts one behind the other, the first one in the left kid of the whole and all others in the right one.
func seq(first api.Term, others ...api.Term) api.Term {
	return nest(api.TermSeq, first, others)
}

// par is as seq, side by side.
func par(first api.Term, others ...api.Term) api.Term {
	return nest(api.TermPar, first, others)
}

func nest(kind int, first api.Term, others []api.Term) api.Term {
	if len(others) == 0 {
		return first
	}
	return both(kind, first, nest(kind, others[0], others[1:]))
}

// line has n leaves one behind the other, not deep.
func line(n int) api.Term {
	return even(api.TermSeq, n)
}

// even has n leaves in compositions of that kind, all as small as can be.
func even(kind, n int) api.Term {
	switch n {
	case 0:
		return api.Term{}
	case 1:
		return one(n)
	}
	return both(kind, even(kind, n/2), even(kind, n-n/2))
}

// leftDeep has so many leaves, the first two deepest.
func leftDeep(leaves int, kind func(n int) int) api.Term {
	t := one(0)
	for n := 1; n < leaves; n++ {
		t = both(kind(n), t, one(n))
	}
	return t
}

// rightDeep has so many leaves, the last two deepest.
func rightDeep(leaves int, kind func(n int) int) api.Term {
	t := one(leaves - 1)
	for n := leaves - 2; n >= 0; n-- {
		t = both(kind(n), one(n), t)
	}
	return t
}

func always(kind int) func(int) int {
	return func(int) int { return kind }
}

// inTurn changes between the two kinds of compositions.
func inTurn(n int) int { return api.TermSeq + n%2 }

// empties are terms without leaves, each in one way.
func empties() []api.Term {
	two := []api.Term{one(100), one(101)}
	access := api.Access{Cell: 3, Write: true, Label: 102}
	return []api.Term{
		{},
		{Kind: api.TermNil, Access: access, Kids: two},
		{Kind: api.TermSeq},
		{Kind: api.TermPar, Kids: []api.Term{}},
		{Kind: api.TermSeq, Access: access, Kids: two[:1]},
		{Kind: api.TermPar, Access: access, Kids: two[:1]},
		{Kind: api.TermSeq, Kids: []api.Term{{}, {}}},
		{Kind: api.TermPar, Kids: []api.Term{{}, {Kind: 7, Kids: two}, one(103)}},
		{Kind: 4, Access: access, Kids: two},
		{Kind: 9, Kids: two},
		{Kind: -1, Access: access, Kids: two},
		{Kind: -2, Kids: two},
		{Kind: math.MaxInt, Kids: two},
		{Kind: math.MinInt, Kids: two},
		{Kind: 1<<32 + 1, Access: access},
		{Kind: 1<<32 + 2, Kids: two},
	}
}

// every goes through all terms that compositions of both kinds make of the parts, without a change of their order.
func every(parts []api.Term, yield func(api.Term)) {
	if len(parts) == 1 {
		yield(parts[0])
		return
	}
	for n := 1; n < len(parts); n++ {
		every(parts[:n], func(left api.Term) {
			every(parts[n:], func(right api.Term) {
				yield(seq(left, right))
				yield(par(left, right))
			})
		})
	}
}

// scattered has kinds, kids and leaves by a fixed rule, among them some that do not count.
func scattered(x *uint32, levels int) api.Term {
	*x = *x*1664525 + 1013904223
	pick := int(*x >> 16)
	if levels == 0 || pick%9 == 0 {
		return one(pick % 1000)
	}
	if pick%11 == 0 {
		l := empties()
		return l[pick/11%len(l)]
	}
	t := both(inTurn(pick), scattered(x, levels-1), scattered(x, levels-1))
	if pick%13 == 0 {
		t.Access = one(pick).Access
		t.Kids = append(t.Kids, one(pick))
	}
	return t
}

// kidsOf returns the two kids of a composition, or nothing.
func kidsOf(t api.Term) []api.Term {
	if t.Kind != api.TermSeq && t.Kind != api.TermPar || len(t.Kids) < 2 {
		return nil
	}
	return t.Kids[:2]
}

// leaves tells by the words of D1 which leaves there are.
func leaves(t api.Term) []api.Access {
	if t.Kind == api.TermOne {
		return []api.Access{t.Access}
	}
	var l []api.Access
	for _, kid := range kidsOf(t) {
		l = append(l, leaves(kid)...)
	}
	return l
}

// precede tells by the words of D2 which leaf precedes which one: a pair comes from the innermost term that contains both.
func precede(t api.Term) [][]bool {
	if t.Kind == api.TermOne {
		return [][]bool{{false}}
	}
	kids := kidsOf(t)
	if kids == nil {
		return nil
	}
	left, right := precede(kids[0]), precede(kids[1])
	var p [][]bool
	for _, row := range left {
		p = append(p, slices.Concat(row, slices.Repeat([]bool{t.Kind == api.TermSeq}, len(right))))
	}
	for _, row := range right {
		p = append(p, slices.Concat(make([]bool, len(left)), row))
	}
	return p
}

// turned has the numbers of the leaves in the order in which right kids of TermPar come first.
func turned(t api.Term, first int) []int {
	if t.Kind == api.TermOne {
		return []int{first}
	}
	kids := kidsOf(t)
	if kids == nil {
		return nil
	}
	left := turned(kids[0], first)
	right := turned(kids[1], first+len(left))
	if t.Kind == api.TermPar {
		left, right = right, left
	}
	return slices.Concat(left, right)
}

// marks tells by the words of D2 what stands at each leaf.
func marks(t api.Term) []api.Pair {
	l := turned(t, 0)
	p := make([]api.Pair, len(l))
	for place, n := range l {
		p[n] = api.Pair{I: n, J: place}
	}
	return p
}

// edges tells by the words of D3 which edges there are.
func edges(t api.Term) []api.Edge {
	var l []api.Edge
	for i, row := range precede(t) {
		for j, is := range row {
			if is {
				l = append(l, api.Edge{From: i, To: j})
			}
		}
	}
	return l
}

// count puts one of n leaves behind the other, in each order that respects the edges; put has a bit for each one that has been put.
func count(n int, l []api.Edge, put int) uint64 {
	if put == 1<<n-1 {
		return 1
	}
	var all uint64
	for i := range n {
		waits := slices.ContainsFunc(l, func(e api.Edge) bool { return e.To == i && put>>e.From&1 == 0 })
		if put>>i&1 == 0 && !waits {
			all += count(n, l, put|1<<i)
		}
	}
	return all
}

// exact returns the number of leaves and the number of their orders, not modulo anything.
func exact(t api.Term) (int64, *big.Int) {
	if t.Kind == api.TermOne {
		return 1, big.NewInt(1)
	}
	kids := kidsOf(t)
	if kids == nil {
		return 0, big.NewInt(1)
	}
	left, orders := exact(kids[0])
	right, others := exact(kids[1])
	orders.Mul(orders, others)
	if t.Kind == api.TermPar {
		orders.Mul(orders, new(big.Int).Binomial(left+right, left))
	}
	return left + right, orders
}

// lowWord returns n modulo 2^64.
func lowWord(n *big.Int) uint64 {
	return new(big.Int).And(n, new(big.Int).SetUint64(math.MaxUint64)).Uint64()
}

// tell writes a term down: leaves by their labels, and no more of it than can be read.
func tell(x api.Term) string {
	const most = 500
	var b strings.Builder
	write(&b, x)
	if b.Len() > most {
		return b.String()[:most] + " .."
	}
	return b.String()
}

func write(b *strings.Builder, x api.Term) {
	if x.Kind == api.TermOne {
		b.WriteString(strconv.Itoa(x.Access.Label))
		return
	}
	b.WriteString("(" + strconv.Itoa(x.Kind) + ":")
	for _, kid := range x.Kids {
		b.WriteString(" ")
		write(b, kid)
	}
	b.WriteString(")")
}

func checkLeaves(t *testing.T, x api.Term, want []api.Access) {
	t.Helper()
	if got := sp.Leaves(x); !slices.Equal(got, want) {
		t.Errorf("Leaves(%v): got %v, want %v", tell(x), got, want)
	}
}

// checkLabels is checkLeaves for leaves made by one.
func checkLabels(t *testing.T, x api.Term, labels ...int) {
	t.Helper()
	var want []api.Access
	for _, n := range labels {
		want = append(want, one(n).Access)
	}
	checkLeaves(t, x, want)
}

func checkBefore(t *testing.T, x api.Term, i, j int, want bool) {
	t.Helper()
	if got := sp.Before(x, i, j); got != want {
		t.Errorf("Before(%v, %d, %d): got %v, want %v", tell(x), i, j, got, want)
	}
}

func checkMarks(t *testing.T, x api.Term, want []api.Pair) {
	t.Helper()
	if got := sp.Marks(x); !slices.Equal(got, want) {
		t.Errorf("Marks(%v): got %v, want %v", tell(x), got, want)
	}
}

func checkGraph(t *testing.T, x api.Term, nodes int, want []api.Edge) {
	t.Helper()
	if got, err := sp.Graph(x); err != api.OK || got.Nodes != nodes || !slices.Equal(got.Edges, want) {
		t.Errorf("Graph(%v): got %v and %d, want %d nodes and %v", tell(x), got, err, nodes, want)
	}
}

func checkTooMany(t *testing.T, x api.Term) {
	t.Helper()
	if got, err := sp.Graph(x); err != api.ErrRange || got.Nodes != 0 || got.Edges != nil {
		t.Errorf("Graph: got %v and %d, want nothing and %d", got, err, api.ErrRange)
	}
}

func checkCount(t *testing.T, x api.Term, want uint64) {
	t.Helper()
	if got := sp.Count(x); got != want {
		t.Errorf("Count(%v): got %d, want %d", tell(x), got, want)
	}
}

// check holds every function against the chapter's own words.
func check(t *testing.T, x api.Term) {
	t.Helper()
	l := leaves(x)
	checkLeaves(t, x, l)
	for i, row := range precede(x) {
		for j, want := range row {
			checkBefore(t, x, i, j, want)
		}
		for _, n := range []int{math.MinInt, -1, len(l), len(l) + 1, math.MaxInt} {
			checkBefore(t, x, i, n, false)
			checkBefore(t, x, n, i, false)
		}
	}
	checkMarks(t, x, marks(x))
	checkGraph(t, x, len(l), edges(x))
	_, orders := exact(x)
	checkCount(t, x, lowWord(orders))
}

func checkEmpty(t *testing.T, x api.Term) {
	t.Helper()
	checkLeaves(t, x, nil)
	checkMarks(t, x, nil)
	checkGraph(t, x, 0, nil)
	checkCount(t, x, 1)
	for _, i := range []int{math.MinInt, -1, 0, 1, math.MaxInt} {
		for _, j := range []int{math.MinInt, -1, 0, 1, math.MaxInt} {
			checkBefore(t, x, i, j, false)
		}
	}
}

func TestEmpty(t *testing.T) {
	for _, x := range empties() {
		checkEmpty(t, x)
		for _, y := range empties() {
			checkEmpty(t, seq(x, y))
			checkEmpty(t, par(x, y))
		}
	}
}

func TestLeaf(t *testing.T) {
	for _, a := range []api.Access{{}, {Cell: 3, Write: true, Label: 7}, {Cell: -1, Label: math.MinInt}, {Cell: math.MaxInt, Write: true}} {
		for _, kids := range [][]api.Term{nil, {}, {one(1)}, {one(1), one(2)}, {one(1), one(2), one(3)}} {
			x := api.Term{Kind: api.TermOne, Access: a, Kids: kids}
			checkLeaves(t, x, []api.Access{a})
			checkBefore(t, x, 0, 0, false)
			checkBefore(t, x, 0, 1, false)
			checkBefore(t, x, 1, 0, false)
			checkMarks(t, x, []api.Pair{{I: 0, J: 0}})
			checkGraph(t, x, 1, nil)
			checkCount(t, x, 1)
		}
	}
}

func TestLeaves(t *testing.T) {
	a, b, c, d := one(4), one(3), one(2), one(1)
	checkLabels(t, seq(a, b), 4, 3)
	checkLabels(t, par(a, b), 4, 3)
	checkLabels(t, seq(a, par(b, c), d), 4, 3, 2, 1)
	checkLabels(t, par(seq(a, b), seq(c, d)), 4, 3, 2, 1)
	checkLabels(t, seq(par(seq(d, c), b), a), 1, 2, 3, 4)
	checkLabels(t, par(a, a, a), 4, 4, 4)
	checkLabels(t, api.Term{Kind: api.TermSeq, Kids: []api.Term{a, b, c, d}}, 4, 3)
	checkLabels(t, api.Term{Kind: api.TermPar, Access: d.Access, Kids: []api.Term{a, b, c}}, 4, 3)
	for _, x := range empties() {
		checkLabels(t, seq(x, a), 4)
		checkLabels(t, par(a, x), 4)
		checkLabels(t, par(a, x, seq(x, b), x), 4, 3)
	}
}

func TestBefore(t *testing.T) {
	x := par(seq(one(0), par(one(1), one(2)), one(3)), seq(one(4), one(5)))
	precede := []string{ // in row i, column j
		".xxx..",
		"...x..",
		"...x..",
		"......",
		".....x",
		"......",
	}
	for i, row := range precede {
		for j, c := range row {
			checkBefore(t, x, i, j, c == 'x')
		}
	}
	checkBefore(t, seq(one(0), one(1)), 0, 1, true)
	checkBefore(t, seq(one(0), one(1)), 1, 0, false)
	checkBefore(t, par(one(0), one(1)), 0, 1, false)
	checkBefore(t, par(one(0), one(1)), 1, 0, false)
}

// TestBeforeOfNoLeaf: also where a number that is none would be in reach of one.
func TestBeforeOfNoLeaf(t *testing.T) {
	x := seq(one(0), seq(one(1), one(2)))
	for _, n := range []int{math.MinInt, math.MinInt + 1, -2, -1, 3, 4, math.MaxInt - 1, math.MaxInt} {
		for i := range 3 {
			checkBefore(t, x, i, n, false)
			checkBefore(t, x, n, i, false)
		}
		checkBefore(t, x, n, n, false)
		checkBefore(t, x, -1, n, false)
		checkBefore(t, x, n, 3, false)
	}
}

func TestMarks(t *testing.T) {
	a, b, c, d := one(4), one(3), one(2), one(1)
	for _, k := range []struct {
		x     api.Term
		turns []int
	}{
		{seq(par(a, b), c), []int{1, 0, 2}},
		{seq(a, b), []int{0, 1}},
		{par(a, b), []int{1, 0}},
		{seq(a, par(b, c)), []int{0, 2, 1}},
		{par(a, seq(b, c)), []int{2, 0, 1}},
		{par(seq(a, b), c), []int{1, 2, 0}},
		{par(a, b, c), []int{2, 1, 0}},
		{par(par(a, b), c), []int{2, 1, 0}},
		{par(seq(a, b), seq(c, d)), []int{2, 3, 0, 1}},
		{seq(par(a, b), par(c, d)), []int{1, 0, 3, 2}},
		{seq(a, par(b, c), d), []int{0, 2, 1, 3}},
		{par(seq(par(a, b), c), d), []int{2, 1, 3, 0}},
	} {
		var want []api.Pair
		for i, j := range k.turns {
			want = append(want, api.Pair{I: i, J: j})
		}
		checkMarks(t, k.x, want)
	}
}

func TestGraph(t *testing.T) {
	a, b, c, d := one(4), one(3), one(2), one(1)
	checkGraph(t, seq(a, b), 2, []api.Edge{{From: 0, To: 1}})
	checkGraph(t, par(a, b), 2, nil)
	checkGraph(t, seq(a, b, c), 3, []api.Edge{{From: 0, To: 1}, {From: 0, To: 2}, {From: 1, To: 2}})
	checkGraph(t, seq(seq(a, b), c), 3, []api.Edge{{From: 0, To: 1}, {From: 0, To: 2}, {From: 1, To: 2}})
	checkGraph(t, seq(par(a, b), c), 3, []api.Edge{{From: 0, To: 2}, {From: 1, To: 2}})
	checkGraph(t, par(seq(a, b), seq(c, d)), 4, []api.Edge{{From: 0, To: 1}, {From: 2, To: 3}})
	checkGraph(t, seq(par(a, b), par(c, d)), 4, []api.Edge{{From: 0, To: 2}, {From: 0, To: 3}, {From: 1, To: 2}, {From: 1, To: 3}})
}

func TestGraphOfManyLeaves(t *testing.T) {
	const n = api.MaxNodes
	for _, kind := range []func(int) int{always(api.TermSeq), always(api.TermPar), inTurn} {
		for _, made := range []func(int, func(int) int) api.Term{leftDeep, rightDeep} {
			check(t, made(n, kind))
			checkTooMany(t, made(n+1, kind))
			checkTooMany(t, made(n+2, kind))
			checkTooMany(t, made(2*n, kind))
			checkTooMany(t, made(deepest, kind))
		}
	}
	checkGraph(t, par(api.Term{Kind: 9, Kids: []api.Term{line(n), line(n)}}, even(api.TermPar, n)), n, nil)
	checkGraph(t, api.Term{Kind: api.TermPar, Kids: []api.Term{even(api.TermPar, n), {}, one(1)}}, n, nil)
	checkTooMany(t, seq(one(1), line(n)))
	checkTooMany(t, par(line(n), one(1)))
	checkTooMany(t, par(line(n), line(n)))
}

// TestGraphWithinManyLeaves: a term may be short to write and have more leaves than anybody can go through.
func TestGraphWithinManyLeaves(t *testing.T) {
	x := one(1)
	for n := range 62 {
		x = both(inTurn(n), x, x)
	}
	checkTooMany(t, x)
}

func TestCount(t *testing.T) {
	a := one(1)
	for _, k := range []struct {
		x    api.Term
		want uint64
	}{
		{seq(a, a), 1},
		{par(a, a), 2},
		{seq(a, a, a, a, a), 1},
		{par(a, a, a), 6},
		{par(a, a, a, a, a), 120},
		{par(seq(a, a), a), 3},
		{par(a, seq(a, a)), 3},
		{seq(par(a, a), a), 2},
		{seq(par(a, a), par(a, a)), 4},
		{par(seq(a, a), seq(a, a)), 6},
		{par(seq(a, par(a, a)), seq(a, a)), 20},
		{par(par(a, a), seq(a, a)), 12},
		{par(line(10), line(10)), 184756},
		{par(line(1), line(1000000)), 1000001},
		{par(line(1000000), line(2)), 1000002 * 1000001 / 2},
		{par(line(33), line(33)), 7219428434016265740},
		{par(line(34), line(34)), 28453041475240576740 - 1<<64},
		{even(api.TermPar, 20), 2432902008176640000},
		{even(api.TermPar, 21), 51090942171709440000 - 2<<64},
		{even(api.TermPar, 65), 1 << 63}, // 65! has 63 times the factor 2
		{even(api.TermPar, 66), 0},
		{even(api.TermPar, 100000), 0},
	} {
		checkCount(t, k.x, k.want)
	}
}

func TestCountModulo(t *testing.T) {
	for left := range 70 {
		for right := range 70 {
			x := par(line(left), line(right))
			_, orders := exact(x)
			checkCount(t, x, lowWord(orders))
		}
	}
	for _, n := range []int64{1<<10 - 1, 1 << 12, 1<<14 + 3, 1<<16 - 1, 50000} {
		for _, left := range []int64{3, 64, n / 3, n / 2, n - n/5} {
			x := par(line(int(left)), line(int(n-left)))
			if got, want := sp.Count(x), lowWord(new(big.Int).Binomial(n, left)); got != want {
				t.Errorf("Count of %d and %d leaves side by side: got %d, want %d", left, n-left, got, want)
			}
		}
	}
}

// TestCountOfNestedParts: what is empty of one part may not be of another, in numbers beyond 2^64 and back.
func TestCountOfNestedParts(t *testing.T) {
	x := one(0)
	for n := range 12 {
		x = par(line(1<<n-1), seq(x, line(n*n)), api.Term{})
		_, orders := exact(x)
		checkCount(t, x, lowWord(orders))
		checkCount(t, seq(x, x), lowWord(new(big.Int).Mul(orders, orders)))
	}
}

func TestEverySmallTerm(t *testing.T) {
	for n := 1; n <= 6; n++ {
		var parts []api.Term
		for i := range n {
			parts = append(parts, one(n-i))
		}
		every(parts, func(x api.Term) {
			check(t, x)
			checkCount(t, x, count(n, edges(x), 0))
		})
	}
}

func TestEverySmallTermWithEmptyParts(t *testing.T) {
	l := empties()
	for leaves := range 16 {
		parts := make([]api.Term, 4)
		for i := range parts {
			parts[i] = l[(3*leaves+i)%len(l)]
			if leaves>>i&1 == 1 {
				parts[i] = one(i)
			}
		}
		every(parts, func(x api.Term) { check(t, x) })
	}
}

func TestScatteredTerms(t *testing.T) {
	for seed := range 300 {
		x := uint32(seed)
		check(t, scattered(&x, 1+seed%6))
		if t.Failed() {
			return
		}
	}
}

// TestGraphIsAnOrder: what precedes is in the graph, not only by way of others, and its orders are those that package order counts.
func TestGraphIsAnOrder(t *testing.T) {
	for seed := range 100 {
		x := uint32(seed)
		term := scattered(&x, 4)
		g, err := sp.Graph(term)
		closure, wrong := graph.Closure(g)
		if err != api.OK || wrong != api.OK || !slices.Equal(g.Edges, closure.Edges) {
			t.Errorf("Graph(%v): got %v and %d, and its closure is %v and %d", tell(term), g, err, closure, wrong)
		}
		if n, err := order.Count(g); err == api.OK {
			checkCount(t, term, n)
		}
	}
}

// TestMarksTellWhatPrecedes: a leaf precedes another one just where both numbers are smaller.
func TestMarksTellWhatPrecedes(t *testing.T) {
	for seed := range 100 {
		x := uint32(seed)
		term := scattered(&x, 5)
		l := sp.Marks(term)
		for _, a := range l {
			for _, b := range l {
				checkBefore(t, term, a.I, b.I, a.I < b.I && a.J < b.J)
			}
		}
	}
}

func TestDeepTermsInSequence(t *testing.T) {
	for _, x := range []api.Term{leftDeep(deepest, always(api.TermSeq)), rightDeep(deepest, always(api.TermSeq))} {
		if l := sp.Leaves(x); len(l) != deepest || l[0] != one(0).Access || l[deepest-1] != one(deepest-1).Access {
			t.Errorf("Leaves of a deep term: got %d", len(l))
		}
		for i, m := range sp.Marks(x) {
			if m != (api.Pair{I: i, J: i}) {
				t.Fatalf("Marks of a deep term: got %v for leaf %d", m, i)
			}
		}
		if n := sp.Count(x); n != 1 {
			t.Errorf("Count of a deep term: got %d, want 1", n)
		}
		if !sp.Before(x, 0, 1) || !sp.Before(x, 0, deepest-1) || !sp.Before(x, deepest-2, deepest-1) || sp.Before(x, deepest-1, deepest) || sp.Before(x, 1, 0) {
			t.Errorf("Before of a deep term: leaves do not precede those behind them")
		}
	}
}

func TestDeepTermsSideBySide(t *testing.T) {
	for _, x := range []api.Term{leftDeep(deepest, always(api.TermPar)), rightDeep(deepest, always(api.TermPar))} {
		for i, m := range sp.Marks(x) {
			if m != (api.Pair{I: i, J: deepest - 1 - i}) {
				t.Fatalf("Marks of a deep term: got %v for leaf %d", m, i)
			}
		}
		if n := sp.Count(x); n != 0 {
			t.Errorf("Count of a deep term: got %d, want 0", n)
		}
		if sp.Before(x, 0, 1) || sp.Before(x, 0, deepest-1) || sp.Before(x, deepest-2, deepest-1) {
			t.Errorf("Before of a deep term: leaves side by side precede each other")
		}
	}
}

func TestDeepTermsInTurn(t *testing.T) {
	x := leftDeep(deepest, inTurn)
	m := sp.Marks(x)
	for n := 1; n < deepest; n++ { // leaf n is the right kid of a composition of kind inTurn(n)
		if inTurn(n) == api.TermPar && m[n].J >= m[n-1].J || inTurn(n) == api.TermSeq && m[n].J <= m[n-1].J {
			t.Fatalf("Marks of a deep term: got %v and %v", m[n-1], m[n])
		}
	}
	for _, n := range []int{1, 2, 3, 1000, 1001, deepest - 2, deepest - 1} {
		if want := inTurn(n) == api.TermSeq; sp.Before(x, 0, n) != want || sp.Before(x, n-1, n) != want {
			t.Errorf("Before of a deep term: leaf %d", n)
		}
	}
}

func TestDeepTermsWithoutLeaves(t *testing.T) {
	left, right := api.Term{}, api.Term{}
	for n := range deepest - 1 {
		left = both(inTurn(n), left, api.Term{})
		right = both(inTurn(n), api.Term{}, right)
	}
	for _, x := range []api.Term{left, right} {
		if len(sp.Leaves(x)) != 0 || len(sp.Marks(x)) != 0 || sp.Count(x) != 1 || sp.Before(x, 0, 1) {
			t.Errorf("a deep term without leaves has some")
		}
		if g, err := sp.Graph(x); err != api.OK || g.Nodes != 0 || len(g.Edges) != 0 {
			t.Errorf("Graph of a deep term without leaves: got %v and %d", g, err)
		}
		if n := sp.Count(par(seq(x, one(1)), seq(one(2), x), one(3))); n != 6 {
			t.Errorf("Count of three leaves side by side: got %d, want 6", n)
		}
	}
}

// TestLeavesThatShareMemory: a term may have one and the same slice of kids at many places.
func TestLeavesThatShareMemory(t *testing.T) {
	x := one(5)
	for range 18 {
		x = both(api.TermSeq, x, x)
	}
	const n = 1 << 18
	l := sp.Leaves(par(x, one(6)))
	if len(l) != n+1 || l[0] != one(5).Access || l[n-1] != one(5).Access || l[n] != one(6).Access {
		t.Errorf("Leaves: got %d, want %d", len(l), n+1)
	}
	if m := sp.Marks(par(x, one(6))); len(m) != n+1 || m[0] != (api.Pair{I: 0, J: 1}) || m[n-1] != (api.Pair{I: n - 1, J: n}) || m[n] != (api.Pair{I: n, J: 0}) {
		t.Errorf("Marks: got %d marks", len(m))
	}
	if got := sp.Count(par(x, one(6))); got != n+1 {
		t.Errorf("Count: got %d, want %d", got, n+1)
	}
	if !sp.Before(x, 0, n-1) || sp.Before(x, n-1, 0) || sp.Before(par(x, x), 0, n) {
		t.Errorf("Before: leaves precede where they should not, or do not where they should")
	}
}

func callAll(x api.Term) {
	sp.Leaves(x)
	sp.Before(x, 0, 1)
	sp.Marks(x)
	sp.Graph(x)
	sp.Count(x)
}

// clone copies a term whole, spare capacity and kids that do not count too.
func clone(x api.Term) api.Term {
	kids := slices.Clone(x.Kids[:cap(x.Kids)])
	for i := range kids {
		kids[i] = clone(kids[i])
	}
	x.Kids = kids
	return x
}

// whole has all kids in its length, up to the capacity.
func whole(x api.Term) api.Term {
	x = clone(x)
	for i := range x.Kids {
		x.Kids[i] = whole(x.Kids[i])
	}
	return x
}

func TestArgumentsStay(t *testing.T) {
	kids := []api.Term{one(1), seq(one(2), par(one(3), one(4))), one(5), par(one(6), one(7))}
	for n := range 5 {
		for kind := -1; kind < 5; kind++ {
			x := api.Term{Kind: kind, Access: api.Access{Cell: 1, Write: true, Label: 2}, Kids: kids[:n]}
			for _, y := range []api.Term{x, seq(x, one(8)), par(one(8), x)} {
				kept := whole(y)
				callAll(y)
				if !reflect.DeepEqual(whole(y), kept) {
					t.Errorf("an argument was changed: got %v, want %v", tell(whole(y)), tell(kept))
				}
			}
		}
	}
}

func TestSpareCapacityIsNotRead(t *testing.T) {
	kids := []api.Term{one(1), one(2), one(3)}
	for _, kind := range []int{api.TermSeq, api.TermPar} {
		checkEmpty(t, api.Term{Kind: kind, Kids: kids[:0]})
		checkEmpty(t, api.Term{Kind: kind, Kids: kids[:1]})
		checkLabels(t, api.Term{Kind: kind, Kids: kids[:2]}, 1, 2)
		checkLabels(t, seq(api.Term{Kind: kind, Kids: kids[:1]}, one(4)), 4)
	}
}

// TestResultsAreNew: a result does not change with an argument, nor an argument or the next answer with a result.
func TestResultsAreNew(t *testing.T) {
	x := seq(par(one(1), one(2)), one(3))
	kept := clone(x)
	l, m := sp.Leaves(x), sp.Marks(x)
	g, _ := sp.Graph(x)
	clear(x.Kids[0].Kids)
	clear(x.Kids)
	if !slices.Equal(l, leaves(kept)) || !slices.Equal(m, marks(kept)) || !slices.Equal(g.Edges, edges(kept)) {
		t.Errorf("a result changed with the argument: %v %v %v", l, m, g)
	}
	x = clone(kept)
	l, m = sp.Leaves(x), sp.Marks(x)
	g, _ = sp.Graph(x)
	clear(l[:cap(l)])
	clear(m[:cap(m)])
	clear(g.Edges[:cap(g.Edges)])
	if !reflect.DeepEqual(x, kept) {
		t.Errorf("the argument changed with a result: got %v, want %v", tell(x), tell(kept))
	}
	check(t, x)
}
