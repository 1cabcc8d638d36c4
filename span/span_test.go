package span_test

import (
	"math"
	"math/bits"
	"reflect"
	"slices"
	"strconv"
	"strings"
	"testing"

	"forkwright/api"
	"forkwright/order"
	"forkwright/sp"
	"forkwright/span"
)

// deepest is how many levels of nesting the document allows.
const deepest = 1 << 16

var leaf = api.Term{Kind: api.TermOne, Access: api.Access{Cell: 3, Write: true, Label: 7}}

func both(kind int, left, right api.Term) api.Term {
	return api.Term{Kind: kind, Kids: []api.Term{left, right}}
}

// seq puts one behind the other, the first one in the left kid of the whole and all others in the right one.
func seq(first api.Term, others ...api.Term) api.Term {
	return nest(api.TermSeq, first, others)
}

// par is as seq, side by side.
func par(first api.Term, others ...api.Term) api.Term {
	return nest(api.TermPar, first, others)
}

func nest(kind int, first api.Term, others []api.Term) api.Term {
	if len(others) == 0 {
		return first
	}
	return both(kind, first, nest(kind, others[0], others[1:]))
}

// even has n leaves in compositions of that kind, not deep.
func even(kind, n int) api.Term {
	switch n {
	case 0:
		return api.Term{}
	case 1:
		return leaf
	}
	return both(kind, even(kind, n/2), even(kind, n-n/2))
}

// inTurn changes between the two kinds of compositions.
func inTurn(n int) int { return api.TermSeq + n%2 }

// empties are terms without leaves, each in one way.
func empties() []api.Term {
	two := []api.Term{leaf, leaf}
	return []api.Term{
		{},
		{Kind: api.TermNil, Access: leaf.Access, Kids: two},
		{Kind: api.TermSeq},
		{Kind: api.TermPar, Kids: []api.Term{}},
		{Kind: api.TermSeq, Access: leaf.Access, Kids: two[:1]},
		{Kind: api.TermPar, Access: leaf.Access, Kids: two[:1]},
		{Kind: api.TermSeq, Kids: []api.Term{{}, {}}},
		{Kind: api.TermPar, Kids: []api.Term{{}, {Kind: 7, Kids: two}, leaf}},
		{Kind: 4, Access: leaf.Access, Kids: two},
		{Kind: 9, Kids: two},
		{Kind: -1, Access: leaf.Access, Kids: two},
		{Kind: -2, Kids: two},
		{Kind: math.MaxInt, Kids: two},
		{Kind: math.MinInt, Kids: two},
		{Kind: 1<<32 + 1, Access: leaf.Access},
		{Kind: 1<<32 + 2, Kids: two},
	}
}

// every goes through all terms that compositions of both kinds make of the parts, without a change of their order.
func every(parts []api.Term, yield func(api.Term)) {
	if len(parts) == 1 {
		yield(parts[0])
		return
	}
	for n := 1; n < len(parts); n++ {
		every(parts[:n], func(left api.Term) {
			every(parts[n:], func(right api.Term) {
				yield(seq(left, right))
				yield(par(left, right))
			})
		})
	}
}

// scattered has kinds and kids by a fixed rule, among them some that do not count.
func scattered(x *uint32, levels int) api.Term {
	*x = *x*1664525 + 1013904223
	pick := int(*x >> 16)
	if levels == 0 || pick%9 == 0 {
		return leaf
	}
	if pick%11 == 0 {
		l := empties()
		return l[pick/11%len(l)]
	}
	t := both(inTurn(pick), scattered(x, levels-1), scattered(x, levels-1))
	if pick%13 == 0 {
		t.Access = leaf.Access
		t.Kids = append(t.Kids, leaf)
	}
	return t
}

// precede tells by the words of chapter 4 which leaf precedes which one: a pair comes from the innermost term that contains both.
func precede(t api.Term) [][]bool {
	if t.Kind == api.TermOne {
		return [][]bool{{false}}
	}
	if t.Kind != api.TermSeq && t.Kind != api.TermPar || len(t.Kids) < 2 {
		return nil
	}
	left, right := precede(t.Kids[0]), precede(t.Kids[1])
	var p [][]bool
	for _, row := range left {
		p = append(p, slices.Concat(row, slices.Repeat([]bool{t.Kind == api.TermSeq}, len(right))))
	}
	for _, row := range right {
		p = append(p, slices.Concat(make([]bool, len(left)), row))
	}
	return p
}

// longest tries all sequences that go on from a leaf.
func longest(p [][]bool, from int) int {
	more := 0
	for next, is := range p[from] {
		if is {
			more = max(more, longest(p, next))
		}
	}
	return 1 + more
}

// largest tries all sets of leaves: each one has a bit.
func largest(p [][]bool) int {
	most := 0
	for set := range uint(1) << len(p) {
		if bits.OnesCount(set) > most && apart(p, set) {
			most = bits.OnesCount(set)
		}
	}
	return most
}

func apart(p [][]bool, set uint) bool {
	for i, row := range p {
		for j, is := range row {
			if is && set>>i&1 == 1 && set>>j&1 == 1 {
				return false
			}
		}
	}
	return true
}

// tell writes a term down, leaves as points, and no more of it than can be read.
func tell(x api.Term) string {
	const most = 500
	var b strings.Builder
	write(&b, x)
	if b.Len() > most {
		return b.String()[:most] + " .."
	}
	return b.String()
}

func write(b *strings.Builder, x api.Term) {
	if x.Kind == api.TermOne {
		b.WriteString(".")
		return
	}
	b.WriteString("(" + strconv.Itoa(x.Kind) + ":")
	for _, kid := range x.Kids {
		b.WriteString(" ")
		write(b, kid)
	}
	b.WriteString(")")
}

type measures struct{ work, span, width int }

func measured(x api.Term) measures {
	return measures{span.Work(x), span.Span(x), span.Width(x)}
}

func check(t *testing.T, x api.Term, want measures) {
	t.Helper()
	if got := measured(x); got != want {
		t.Errorf("Work, Span, Width of %v: got %v, want %v", tell(x), got, want)
	}
}

// checkWords holds the functions against the chapter's own words.
func checkWords(t *testing.T, x api.Term) {
	t.Helper()
	p := precede(x)
	want := measures{work: len(p), width: largest(p)}
	for from := range p {
		want.span = max(want.span, longest(p, from))
	}
	check(t, x, want)
}

func TestExample(t *testing.T) {
	check(t, seq(par(leaf, leaf), leaf), measures{3, 2, 2})
	check(t, seq(leaf, par(leaf, leaf)), measures{3, 2, 2})
}

func TestMeasures(t *testing.T) {
	check(t, seq(leaf, leaf), measures{2, 2, 1})
	check(t, par(leaf, leaf), measures{2, 1, 2})
	check(t, seq(leaf, leaf, leaf, leaf, leaf), measures{5, 5, 1})
	check(t, par(leaf, leaf, leaf, leaf, leaf), measures{5, 1, 5})
	check(t, par(seq(leaf, leaf), leaf), measures{3, 2, 2})
	check(t, par(leaf, seq(leaf, leaf)), measures{3, 2, 2})
	check(t, par(seq(leaf, leaf), seq(leaf, leaf, leaf)), measures{5, 3, 2})
	check(t, par(seq(leaf, leaf, leaf), seq(leaf, leaf)), measures{5, 3, 2})
	check(t, seq(par(leaf, leaf), par(leaf, leaf, leaf)), measures{5, 2, 3})
	check(t, seq(par(leaf, leaf, leaf), par(leaf, leaf)), measures{5, 2, 3})
	check(t, seq(leaf, par(seq(leaf, par(leaf, leaf), leaf), leaf), leaf), measures{7, 5, 3})
	check(t, par(seq(par(leaf, leaf), leaf, par(leaf, leaf)), seq(leaf, par(leaf, leaf, leaf))), measures{9, 3, 5})
}

func TestLeaf(t *testing.T) {
	for _, a := range []api.Access{{}, leaf.Access, {Cell: -1, Label: math.MinInt}, {Cell: math.MaxInt, Write: true}} {
		for n := range 4 {
			check(t, api.Term{Kind: api.TermOne, Access: a, Kids: slices.Repeat([]api.Term{leaf}, n)}, measures{1, 1, 1})
		}
	}
}

func TestEmpty(t *testing.T) {
	for _, x := range empties() {
		check(t, x, measures{})
		for _, y := range empties() {
			check(t, seq(x, y), measures{})
			check(t, par(x, y), measures{})
		}
	}
}

func TestEmptyPartsDoNotCount(t *testing.T) {
	for _, x := range empties() {
		check(t, seq(x, leaf), measures{1, 1, 1})
		check(t, seq(leaf, x), measures{1, 1, 1})
		check(t, par(x, leaf), measures{1, 1, 1})
		check(t, par(leaf, x), measures{1, 1, 1})
		check(t, seq(x, par(leaf, x, leaf), x, leaf, x), measures{3, 2, 2})
		check(t, par(x, seq(leaf, x, leaf), x, leaf, x), measures{3, 2, 2})
	}
}

// TestKidsBeyondTwoDoNotCount: neither those in the length nor those in the spare capacity.
func TestKidsBeyondTwoDoNotCount(t *testing.T) {
	kids := []api.Term{leaf, par(leaf, leaf), seq(leaf, leaf, leaf, leaf), par(leaf, leaf, leaf, leaf)}
	for n := range 2 {
		check(t, api.Term{Kind: api.TermSeq, Kids: kids[:n]}, measures{})
		check(t, api.Term{Kind: api.TermPar, Kids: kids[:n]}, measures{})
	}
	for n := 2; n <= 4; n++ {
		check(t, api.Term{Kind: api.TermSeq, Kids: kids[:n]}, measures{3, 2, 2})
		check(t, api.Term{Kind: api.TermPar, Access: leaf.Access, Kids: kids[:n]}, measures{3, 1, 3})
	}
}

func TestEverySmallTerm(t *testing.T) {
	for n := 1; n <= 6; n++ {
		every(slices.Repeat([]api.Term{leaf}, n), func(x api.Term) { checkWords(t, x) })
	}
}

func TestEverySmallTermWithEmptyParts(t *testing.T) {
	l := empties()
	for leaves := range 32 {
		parts := make([]api.Term, 5)
		for i := range parts {
			parts[i] = l[(3*leaves+i)%len(l)]
			if leaves>>i&1 == 1 {
				parts[i] = leaf
			}
		}
		every(parts, func(x api.Term) { checkWords(t, x) })
	}
}

// TestTermsAsGraphs: of a term's graph the span is the height, and the width is that of a largest antichain.
func TestTermsAsGraphs(t *testing.T) {
	for seed := range 400 {
		x := uint32(seed)
		term := scattered(&x, 1+seed%7)
		g, err := sp.Graph(term)
		if err != api.OK {
			t.Fatalf("Graph of %v: %d", tell(term), err)
		}
		height, _ := order.Height(g)
		wide, _ := order.Wide(g)
		check(t, term, measures{g.Nodes, height, len(wide)})
	}
}

func TestManyLeaves(t *testing.T) {
	for _, n := range []int{api.MaxNodes, api.MaxNodes + 1, 1000, math.MaxUint16 + 1, 1 << 20} {
		line, row := even(api.TermSeq, n), even(api.TermPar, n)
		check(t, line, measures{n, n, 1})
		check(t, row, measures{n, 1, n})
		check(t, seq(row, line, row), measures{3 * n, n + 2, n})
		check(t, par(line, row, line), measures{3 * n, n, n + 2})
	}
}

func TestDeepTerms(t *testing.T) {
	for kind, want := range map[int]measures{
		api.TermSeq: {deepest, deepest, 1},
		api.TermPar: {deepest, 1, deepest},
	} {
		left, right := leaf, leaf
		for range deepest - 1 {
			left, right = both(kind, left, leaf), both(kind, leaf, right)
		}
		check(t, left, want)
		check(t, right, want)
	}
}

// TestDeepTermsInTurn: each second level puts one leaf ahead or behind, the others one beside.
func TestDeepTermsInTurn(t *testing.T) {
	left, right := leaf, leaf
	for n := range deepest - 1 {
		left, right = both(inTurn(n), left, leaf), both(inTurn(n), leaf, right)
	}
	check(t, left, measures{deepest, deepest/2 + 1, deepest / 2})
	check(t, right, measures{deepest, deepest/2 + 1, deepest / 2})
}

func TestDeepTermsWithoutLeaves(t *testing.T) {
	left, right := api.Term{}, api.Term{}
	for n := range deepest - 1 {
		left, right = both(inTurn(n), left, api.Term{}), both(inTurn(n), api.Term{}, right)
	}
	check(t, left, measures{})
	check(t, right, measures{})
}

// TestKidsThatShareMemory: a term may have one and the same slice of kids at many places.
func TestKidsThatShareMemory(t *testing.T) {
	x := leaf
	for n := range 20 {
		x = both(inTurn(n), x, x)
	}
	check(t, x, measures{1 << 20, 1 << 10, 1 << 10})
}

// clone copies a term whole: kids that do not count, and those in the spare capacity, come into the length.
func clone(x api.Term) api.Term {
	kids := slices.Clone(x.Kids[:cap(x.Kids)])
	for i := range kids {
		kids[i] = clone(kids[i])
	}
	x.Kids = kids
	return x
}

func TestArgumentsStay(t *testing.T) {
	kids := []api.Term{leaf, seq(leaf, par(leaf, leaf)), leaf, par(leaf, leaf)}
	for n := range 5 {
		for kind := -1; kind < 5; kind++ {
			x := api.Term{Kind: kind, Access: leaf.Access, Kids: kids[:n]}
			for _, y := range []api.Term{x, seq(x, leaf), par(leaf, x)} {
				kept := clone(y)
				measured(y)
				if !reflect.DeepEqual(clone(y), kept) {
					t.Errorf("an argument was changed: got %v, want %v", tell(clone(y)), tell(kept))
				}
			}
		}
	}
}

// TestNothingIsKept: what a term was is not asked for when it is measured again.
func TestNothingIsKept(t *testing.T) {
	x := seq(par(leaf, leaf), leaf)
	check(t, x, measures{3, 2, 2})
	x.Kids[0].Kids[1] = par(leaf, leaf)
	check(t, x, measures{4, 2, 3})
	x.Kids[1] = api.Term{}
	check(t, x, measures{3, 1, 3})
	check(t, seq(par(leaf, leaf), leaf), measures{3, 2, 2})
}
