package ufind_test

import (
	"math"
	"slices"
	"testing"

	"forkwright/api"
	"forkwright/ufind"
)

func join(i, j int) api.SetOp { return api.SetOp{Kind: api.SetJoin, I: i, J: j} }
func same(i, j int) api.SetOp { return api.SetOp{Kind: api.SetSame, I: i, J: j} }
func size(i int) api.SetOp    { return api.SetOp{Kind: api.SetSize, I: i} }

// partition holds, by the chapter's own words, a name for the set of each element: the elements of one set have one name.
type partition []int

func singles(n int) partition {
	p := make(partition, n)
	for i := range p {
		p[i] = i
	}
	return p
}

func (p partition) has(i int) bool { return i >= 0 && i < len(p) }

func (p partition) size(i int) int {
	n := 0
	for _, name := range p {
		if name == p[i] {
			n++
		}
	}
	return n
}

// join renames one of the two sets.
func (p partition) join(i, j int) {
	old := p[i]
	for k, name := range p {
		if name == old {
			p[k] = p[j]
		}
	}
}

func (p partition) answer(op api.SetOp) int {
	if !p.has(op.I) {
		return -1
	}
	if op.Kind == api.SetSize {
		return p.size(op.I)
	}
	if op.Kind != api.SetJoin && op.Kind != api.SetSame || !p.has(op.J) {
		return -1
	}
	differ := p[op.I] != p[op.J]
	if op.Kind == api.SetJoin {
		p.join(op.I, op.J)
		return number(differ)
	}
	return number(!differ)
}

func number(yes bool) int {
	if yes {
		return 1
	}
	return 0
}

func answers(n int, ops []api.SetOp) []int {
	p := singles(n)
	var l []int
	for _, op := range ops {
		l = append(l, p.answer(op))
	}
	return l
}

func checkPlay(t *testing.T, n int, ops []api.SetOp, want []int) {
	t.Helper()
	got, err := ufind.Play(n, ops)
	if err == api.OK && slices.Equal(got, want) {
		return
	}
	if len(ops) <= 20 {
		t.Fatalf("Play(%d, %v): got %v and %d, want %v", n, ops, got, err, want)
	}
	for i := range min(len(got), len(want)) {
		if got[i] != want[i] {
			t.Fatalf("Play(%d, ..) with %d operations: answer %d, to %v, is %d, want %d", n, len(ops), i, ops[i], got[i], want[i])
		}
	}
	t.Fatalf("Play(%d, ..) with %d operations: got %d answers and %d, want %d", n, len(ops), len(got), err, len(want))
}

// check holds the answers against the chapter's own words.
func check(t *testing.T, n int, ops []api.SetOp) {
	t.Helper()
	checkPlay(t, n, ops, answers(n, ops))
}

// everySame asks of each two elements whether they are in one set.
func everySame(n int) []api.SetOp {
	var ops []api.SetOp
	for i := range n {
		for j := range n {
			ops = append(ops, same(i, j))
		}
	}
	return ops
}

func everySize(n int) []api.SetOp {
	var ops []api.SetOp
	for i := range n {
		ops = append(ops, size(i))
	}
	return ops
}

func everyJoin(n int) []api.SetOp {
	var ops []api.SetOp
	for i := range n {
		for j := range n {
			ops = append(ops, join(i, j))
		}
	}
	return ops
}

// strangers are numbers that are no elements.
func strangers(n int) []int {
	return []int{-1, -2, -n, -n - 1, math.MinInt, math.MinInt + 1, n, n + 1, api.MaxNodes, api.MaxNodes + 1, 1 << 32, 1<<32 + 1, math.MaxInt}
}

// strangeKinds are kinds that no chapter defines.
func strangeKinds() []int {
	return []int{0, 4, 5, 9, -1, -2, -3, 1<<32 + api.SetJoin, 1<<32 + api.SetSame, 1<<32 + api.SetSize, 256 + api.SetSize, math.MinInt, math.MaxInt}
}

func TestPlay(t *testing.T) {
	for _, c := range []struct {
		n    int
		ops  []api.SetOp
		want []int
	}{
		{0, nil, nil},
		{5, nil, nil},
		{5, []api.SetOp{}, nil},
		{3, []api.SetOp{join(0, 2), size(0), size(2), size(1)}, []int{1, 2, 2, 1}}, // the chapter's example
		{1, []api.SetOp{size(0)}, []int{1}},
		{1, []api.SetOp{same(0, 0)}, []int{1}},
		{1, []api.SetOp{join(0, 0), size(0)}, []int{0, 1}},
		{2, []api.SetOp{same(0, 1), same(1, 0)}, []int{0, 0}},
		{2, []api.SetOp{join(0, 1), join(0, 1), join(1, 0)}, []int{1, 0, 0}},
		{2, []api.SetOp{join(0, 1), same(0, 1), same(1, 0), same(0, 0), same(1, 1)}, []int{1, 1, 1, 1, 1}},
		{2, []api.SetOp{size(0), join(1, 0), size(0), size(1)}, []int{1, 1, 2, 2}},
		{3, []api.SetOp{join(0, 1), join(1, 2), same(0, 2), join(2, 0), size(1)}, []int{1, 1, 1, 0, 3}},
		{4, []api.SetOp{join(0, 1), join(2, 3), same(1, 2), join(1, 3), same(0, 2), size(2)}, []int{1, 1, 0, 1, 1, 4}},
		{4, []api.SetOp{join(0, 1), size(2), size(3), same(2, 3), same(0, 3)}, []int{1, 1, 1, 0, 0}},
		{5, []api.SetOp{join(4, 3), join(3, 2), join(2, 1), size(4), size(0), same(4, 1), same(4, 0)}, []int{1, 1, 1, 4, 1, 1, 0}},
		{3, []api.SetOp{join(0, 3), join(3, 0), size(0), size(2)}, []int{-1, -1, 1, 1}},
		{3, []api.SetOp{join(-1, 0), join(0, -1), same(0, -1), same(-1, -1), size(-1), size(0)}, []int{-1, -1, -1, -1, -1, 1}},
		{3, []api.SetOp{{Kind: api.SetSize, I: 1, J: 99}, {Kind: api.SetSize, I: 1, J: -1}, {Kind: api.SetSize, I: 3, J: 1}}, []int{1, 1, -1}},
		{3, []api.SetOp{{Kind: 0, I: 0, J: 1}, {Kind: 4, I: 0, J: 1}, same(0, 1), {}}, []int{-1, -1, 0, -1}},
		{0, []api.SetOp{join(0, 0), same(0, 0), size(0)}, []int{-1, -1, -1}},
	} {
		checkPlay(t, c.n, c.ops, c.want)
		check(t, c.n, c.ops)
	}
}

// TestNumberOfElements: every number up to MaxNodes, both among them, and no other.
func TestNumberOfElements(t *testing.T) {
	ops := []api.SetOp{size(0), {Kind: 9}, size(-1), size(api.MaxNodes - 1)}
	for n := range api.MaxNodes + 1 {
		check(t, n, nil)
		check(t, n, ops)
	}
	for _, n := range []int{-1, -2, -api.MaxNodes, math.MinInt, math.MinInt + 1, api.MaxNodes + 1, api.MaxNodes + 2, 1 << 32, 1<<32 + 1, math.MaxInt} {
		for _, l := range [][]api.SetOp{nil, ops, {join(0, 1)}} {
			if got, err := ufind.Play(n, l); err != api.ErrRange || len(got) != 0 {
				t.Errorf("Play(%d, %v): got %v and %d, want nothing and %d", n, l, got, err, api.ErrRange)
			}
		}
	}
}

// TestEverySmallCase: up to three operations of every kind, wrong ones too, on elements and their neighbours; then all sets are asked.
func TestEverySmallCase(t *testing.T) {
	for n := range 4 {
		var one []api.SetOp
		for kind := 0; kind <= 4; kind++ {
			for i := -1; i <= n; i++ {
				for j := -1; j <= n; j++ {
					one = append(one, api.SetOp{Kind: kind, I: i, J: j})
				}
			}
		}
		asked := append(everySame(n), everySize(n)...)
		for _, a := range one {
			check(t, n, append([]api.SetOp{a}, asked...))
			for _, b := range one {
				check(t, n, append([]api.SetOp{a, b}, asked...))
				for _, c := range joinsOf(one) {
					check(t, n, append([]api.SetOp{a, b, c}, asked...))
				}
			}
		}
	}
}

func joinsOf(ops []api.SetOp) []api.SetOp {
	var l []api.SetOp
	for _, op := range ops {
		if op.Kind == api.SetJoin {
			l = append(l, op)
		}
	}
	return l
}

// TestEveryOrderOfJoins: three joins among five elements, in every order and both ways, which makes trees of every form.
func TestEveryOrderOfJoins(t *testing.T) {
	const n = 5
	asked := append(everySame(n), everySize(n)...)
	joins := everyJoin(n)
	for _, a := range joins {
		for _, b := range joins {
			for _, c := range joins {
				check(t, n, append([]api.SetOp{a, b, c}, asked...))
			}
		}
	}
}

// TestAskedBetweenJoins: what is asked changes nothing, wherever it is asked.
func TestAskedBetweenJoins(t *testing.T) {
	const n = 6
	asked := append(everySame(n), everySize(n)...)
	for _, a := range everyJoin(n) {
		for _, b := range everyJoin(n) {
			plain := []api.SetOp{a, b, join(0, 1), join(1, 2), join(2, 3), join(3, 4), join(4, 5)}
			var between []api.SetOp
			for _, op := range plain {
				between = append(append(between, op), asked...)
			}
			check(t, n, between)
			var last []int
			got, _ := ufind.Play(n, between)
			for i, answer := range got {
				if i%(len(asked)+1) == 0 {
					last = append(last, answer)
				}
			}
			checkPlay(t, n, plain, last)
		}
	}
}

// TestStrangers: what is no element gets -1, where it is used, and changes nothing.
func TestStrangers(t *testing.T) {
	for _, n := range []int{0, 1, 2, 7, api.MaxNodes - 1, api.MaxNodes} {
		for _, s := range strangers(n) {
			if 0 <= s && s < n {
				continue
			}
			ops := []api.SetOp{join(0, 1), join(s, 0), join(0, s), join(s, s), same(s, 0), same(0, s), same(s, s), size(s)}
			ops = append(ops, api.SetOp{Kind: api.SetSize, I: 0, J: s}, api.SetOp{Kind: api.SetSize, I: s, J: 0})
			want := []int{-1, -1, -1, -1, -1, -1, -1, -1, -1, -1}
			if n >= 2 {
				want[0], want[8] = 1, 2
			} else if n == 1 {
				want[8] = 1
			}
			checkPlay(t, n, ops, want)
			check(t, n, append(append(ops, everySame(min(n, 9))...), everySize(n)...))
		}
	}
}

// TestStrangeKinds: they get -1, whatever I and J are, and change nothing.
func TestStrangeKinds(t *testing.T) {
	for _, kind := range strangeKinds() {
		op := func(i, j int) api.SetOp { return api.SetOp{Kind: kind, I: i, J: j} }
		ops := []api.SetOp{join(0, 1), op(0, 1), op(1, 2), op(2, 2), op(-1, 0), op(0, 99), op(-7, math.MaxInt), size(0), size(2), same(1, 2)}
		checkPlay(t, 4, ops, []int{1, -1, -1, -1, -1, -1, -1, 2, 1, 0})
	}
}

// shapes are joins of as many elements as there may be, that make trees of many forms.
func shapes() [][]api.SetOp {
	const n = api.MaxNodes
	var up, down, star, starred, pairs, halves, steps []api.SetOp
	for i := range n - 1 {
		up = append(up, join(i, i+1))
		down = append(down, join(n-1-i, n-2-i))
		star = append(star, join(0, i+1))
		starred = append(starred, join(i, n-1))
	}
	for width := 1; width < n; width *= 2 {
		for i := 0; i+width < n; i += 2 * width {
			pairs = append(pairs, join(i, i+width))
			halves = append(halves, join(min(i+2*width, n)-1, i+width-1))
		}
	}
	for step := 16; step > 0; step-- {
		for i := 0; i+step < n; i += step {
			steps = append(steps, join(i, i+step))
		}
	}
	return [][]api.SetOp{up, down, star, starred, pairs, halves, steps, slices.Concat(star, down, up)}
}

func TestGreat(t *testing.T) {
	const n = api.MaxNodes
	for _, ops := range shapes() {
		check(t, n, append(slices.Clone(ops), append(everySame(n), everySize(n)...)...))
		var between []api.SetOp
		for i, op := range ops {
			between = append(between, op, size(op.I), size(op.J), same(i%n, (i*7)%n), size((i*13)%n))
		}
		check(t, n, between)
	}
}

// mixed are operations by a fixed rule, joins rarer and rarer, wrong ones among them.
func mixed(n, count, seed int) []api.SetOp {
	var ops []api.SetOp
	x := uint32(seed)
	next := func(below int) int {
		x = x*1664525 + 1013904223
		return int(x>>10) % below
	}
	for i := range count {
		op := api.SetOp{Kind: next(5), I: next(n+2) - 1, J: next(n+2) - 1}
		if op.Kind == api.SetJoin && next(count) < i {
			op.Kind = api.SetSame
		}
		ops = append(ops, op)
	}
	return ops
}

func TestMixed(t *testing.T) {
	for seed := range 200 {
		for _, n := range []int{1, 2, 3, 8, 17, 64, api.MaxNodes} {
			check(t, n, mixed(n, 40+4*n, seed))
		}
	}
}

// TestManyOperations: there is no bound on how many there are.
func TestManyOperations(t *testing.T) {
	const n = api.MaxNodes
	ops := make([]api.SetOp, 300000)
	want := make([]int, len(ops))
	for i := range ops {
		ops[i] = []api.SetOp{join(i%n, (i+1)%n), same(i%n, (i*7)%n), size(i % n)}[i%3]
	}
	for i := range ops {
		want[i] = []int{0, 1, n}[i%3]
	}
	begin := make([]int, n-1)
	var first []api.SetOp
	for i := range begin {
		begin[i] = 1
		first = append(first, join(i, i+1))
	}
	checkPlay(t, n, append(first, ops...), append(begin, want...))
}

// TestPartition: to be in one set is an equivalence, whose classes have the sizes that are told, and each join that answers 1 leaves one class fewer.
func TestPartition(t *testing.T) {
	const n = 30
	for seed := range 60 {
		ops := mixed(n, 30+seed, seed)
		got, err := ufind.Play(n, slices.Concat(ops, everySame(n), everySize(n)))
		if err != api.OK || len(got) != len(ops)+n*n+n {
			t.Fatalf("got %d answers and %d", len(got), err)
		}
		pairs, sizes := got[len(ops):len(ops)+n*n], got[len(ops)+n*n:]
		in := func(i, j int) bool { return pairs[i*n+j] == 1 }
		classes := n
		for i, op := range ops {
			if op.Kind == api.SetJoin && got[i] == 1 {
				classes--
			}
		}
		for i := range n {
			members, first := 0, true
			for j := range n {
				if in(i, j) {
					members++
					first = first && i <= j
				}
				if in(i, j) != in(j, i) {
					t.Fatalf("%d and %d are in one set one way only", i, j)
				}
				for k := range n {
					if in(i, j) && in(j, k) && !in(i, k) {
						t.Fatalf("%d, %d and %d are in one set, but not the first and the last", i, j, k)
					}
				}
			}
			if !in(i, i) || members != sizes[i] {
				t.Fatalf("the set of %d has %d elements, told are %d", i, members, sizes[i])
			}
			if first {
				classes--
			}
		}
		if classes != 0 {
			t.Fatalf("%d sets too few", classes)
		}
	}
}

// TestNothingIsKept: the sets of one call are not those of the next.
func TestNothingIsKept(t *testing.T) {
	for range 3 {
		checkPlay(t, 4, []api.SetOp{size(0), same(0, 1), join(0, 1), size(0)}, []int{1, 0, 1, 2})
	}
}

func TestArgumentsStay(t *testing.T) {
	kept := append(mixed(6, 40, 1), join(0, 6), size(-1), api.SetOp{Kind: 9})
	for length := range len(kept) + 1 {
		ops := slices.Clone(kept)
		for _, n := range []int{-1, 0, 6, api.MaxNodes + 1} {
			ufind.Play(n, ops[:length])
		}
		if !slices.Equal(ops, kept) {
			t.Fatalf("the operations were changed: %v", ops)
		}
	}
}

// TestSpareCapacityIsNotRead: what lies behind the operations changes no answer.
func TestSpareCapacityIsNotRead(t *testing.T) {
	whole := []api.SetOp{join(0, 1), size(0), join(1, 2), size(0)}
	for length := range len(whole) + 1 {
		check(t, 3, whole[:length])
	}
}

func TestResultsAreNew(t *testing.T) {
	ops := []api.SetOp{join(0, 1), size(0), same(0, 1)}
	first, _ := ufind.Play(2, ops)
	second, _ := ufind.Play(2, ops)
	for i := range first {
		first[i] = 77
	}
	if want := []int{1, 2, 1}; !slices.Equal(second, want) {
		t.Errorf("a result changed with another one: %v", second)
	}
	checkPlay(t, 2, ops, []int{1, 2, 1})
	whole := first[:cap(first)]
	for i := range whole {
		whole[i] = 66
	}
	checkPlay(t, 2, ops, []int{1, 2, 1})
}

// TestOperationsMayChangeAfterwards: no answer hangs on them once the call has returned.
func TestOperationsMayChangeAfterwards(t *testing.T) {
	ops := []api.SetOp{join(0, 1), size(0), same(0, 1)}
	got, _ := ufind.Play(2, ops)
	clear(ops)
	if want := []int{1, 2, 1}; !slices.Equal(got, want) {
		t.Errorf("the answers changed with the operations: %v", got)
	}
}
