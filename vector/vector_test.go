package vector_test

import (
	"math"
	"slices"
	"testing"

	"forkwright/api"
	"forkwright/vector"
)

const most = math.MaxUint64

// small are all clocks of up to three counters, trailing zeros too, of numbers at the edges of signed and unsigned ones.
func small() [][]uint64 {
	all := [][]uint64{nil}
	shorter := all
	for range 3 {
		var longer [][]uint64
		for _, v := range shorter {
			for _, n := range []uint64{0, 1, 2, 1 << 63, most} {
				longer = append(longer, append(slices.Clone(v), n))
			}
		}
		all = append(all, longer...)
		shorter = longer
	}
	return all
}

// great are clocks of many counters: as many as Tick makes, more, with zeros ahead of, between and behind the others.
func great() [][]uint64 {
	full := make([]uint64, api.MaxNumber+1)
	for i := range full {
		full[i] = uint64(i%7 + 1)
	}
	last := make([]uint64, api.MaxNumber+1)
	last[api.MaxNumber] = most
	beyond := make([]uint64, api.MaxNumber+4)
	beyond[1], beyond[api.MaxNumber+2] = 3, most
	early := make([]uint64, 1000)
	early[0], early[500] = 1, 4
	return [][]uint64{full, last, beyond, early, make([]uint64, 100), make([]uint64, api.MaxNumber+2)}
}

// counter is the chapter's own rule: counters beyond the slice are 0.
func counter(v []uint64, i int) uint64 {
	if i < len(v) {
		return v[i]
	}
	return 0
}

// places are numbers of counters: within v, at its end, behind it, and none.
func places(v []uint64) []int {
	l := []int{math.MinInt, math.MinInt + 1, -65536, -64, -2, -1, 0, 1, 2, 3, 4, 63, 64, 499, 500, 501}
	l = append(l, len(v)-1, len(v), len(v)+1, api.MaxNumber-1, api.MaxNumber, api.MaxNumber+1, api.MaxNumber+2)
	return append(l, 1<<31, 1<<32, 1<<32+1, math.MaxInt-1, math.MaxInt)
}

// checkClock: got has no trailing zeros, and for each of the first n counters the number that want tells; all others are 0.
func checkClock(t *testing.T, what string, got []uint64, n int, want func(i int) uint64) {
	t.Helper()
	if len(got) > 0 && got[len(got)-1] == 0 {
		t.Fatalf("%s: a trailing zero among %d counters", what, len(got))
	}
	for i := range max(n, len(got)) {
		right := uint64(0)
		if i < n {
			right = want(i)
		}
		if counter(got, i) != right {
			t.Fatalf("%s: counter %d of %d is %d, want %d", what, i, len(got), counter(got, i), right)
		}
	}
}

func checkEqual(t *testing.T, what string, got, want []uint64) {
	t.Helper()
	if !slices.Equal(got, want) {
		t.Errorf("%s: got %v, want %v", what, got, want)
	}
}

func TestAt(t *testing.T) {
	for _, c := range []struct {
		v    []uint64
		i    int
		want uint64
	}{
		{nil, 0, 0},
		{[]uint64{}, 0, 0},
		{nil, -1, 0},
		{[]uint64{7}, 0, 7},
		{[]uint64{7}, 1, 0},
		{[]uint64{7}, -1, 0},
		{[]uint64{7, 0, 9}, 0, 7},
		{[]uint64{7, 0, 9}, 1, 0},
		{[]uint64{7, 0, 9}, 2, 9},
		{[]uint64{7, 0, 9}, 3, 0},
		{[]uint64{7, 0, 9}, -3, 0},
		{[]uint64{7, 8, 0, 0}, 1, 8},
		{[]uint64{7, 8, 0, 0}, 3, 0},
		{[]uint64{most}, 0, most},
		{[]uint64{7, 8}, math.MinInt, 0},
		{[]uint64{7, 8}, math.MaxInt, 0},
		{[]uint64{7, 8}, 1 << 32, 0},
	} {
		if got := vector.At(c.v, c.i); got != c.want {
			t.Errorf("At(%v, %d): got %d, want %d", c.v, c.i, got, c.want)
		}
	}
}

// TestAtEveryCounter: At reads beyond MaxNumber too, where only Tick stops.
func TestAtEveryCounter(t *testing.T) {
	for _, v := range append(small(), great()...) {
		for _, i := range places(v) {
			want := uint64(0)
			if i >= 0 {
				want = counter(v, i)
			}
			if got := vector.At(v, i); got != want {
				t.Errorf("At of %d counters, %d: got %d, want %d", len(v), i, got, want)
			}
		}
		for i, n := range v {
			if vector.At(v, i) != n {
				t.Fatalf("At of %d counters, %d: got %d, want %d", len(v), i, vector.At(v, i), n)
			}
		}
	}
}

func TestTick(t *testing.T) {
	for _, c := range []struct {
		v    []uint64
		i    int
		want []uint64
	}{
		{nil, 0, []uint64{1}},
		{[]uint64{}, 2, []uint64{0, 0, 1}},
		{[]uint64{0, 0, 1}, 0, []uint64{1, 0, 1}},
		{[]uint64{1}, 2, []uint64{1, 0, 1}},
		{[]uint64{1, 2}, 0, []uint64{2, 2}},
		{[]uint64{1, 2}, 1, []uint64{1, 3}},
		{[]uint64{1, 2}, 2, []uint64{1, 2, 1}},
		{[]uint64{1, 0, 0, 0}, 1, []uint64{1, 1}},
		{[]uint64{1, 0, 0, 0}, 0, []uint64{2}},
		{[]uint64{0, 0, 0}, 1, []uint64{0, 1}},
		{[]uint64{1 << 63}, 0, []uint64{1<<63 + 1}},
		{[]uint64{1<<63 - 1}, 0, []uint64{1 << 63}},
		{[]uint64{most - 1}, 0, []uint64{most}},
		{[]uint64{most}, 0, nil}, // modulo 2^64
		{[]uint64{most, 4}, 0, []uint64{0, 4}},
		{[]uint64{4, most}, 1, []uint64{4}},
		{[]uint64{4, 0, most, 0}, 2, []uint64{4}},
		{[]uint64{0, 0, most}, 2, nil},
		{[]uint64{0, most, most}, 1, []uint64{0, 0, most}},
		{nil, -1, nil},
		{[]uint64{0, 0}, -1, nil},
		{[]uint64{1, 2}, -1, []uint64{1, 2}},
		{[]uint64{0, 5, 0}, -1, []uint64{0, 5}},
		{[]uint64{0, 5, 0}, api.MaxNumber + 1, []uint64{0, 5}},
		{[]uint64{1, 2}, math.MinInt, []uint64{1, 2}},
		{[]uint64{1, 2}, math.MaxInt, []uint64{1, 2}},
	} {
		if got := vector.Tick(c.v, c.i); !slices.Equal(got, c.want) {
			t.Errorf("Tick(%v, %d): got %v, want %v", c.v, c.i, got, c.want)
		}
	}
}

func TestTickExample(t *testing.T) {
	checkEqual(t, "ticks of counters 2 and 0", vector.Tick(vector.Tick(nil, 2), 0), []uint64{1, 0, 1})
	checkEqual(t, "ticks of counters 0 and 2", vector.Tick(vector.Tick(nil, 0), 2), []uint64{1, 0, 1})
}

func TestTickEveryCounter(t *testing.T) {
	for _, v := range append(small(), great()...) {
		for _, i := range places(v) {
			n := len(v)
			if 0 <= i && i <= api.MaxNumber {
				n = max(n, i+1)
			}
			checkClock(t, "Tick", vector.Tick(v, i), n, func(j int) uint64 {
				if j == i && i <= api.MaxNumber {
					return counter(v, j) + 1
				}
				return counter(v, j)
			})
		}
	}
}

// TestTickGoesRound comes back to nothing at all after 2^64 ticks, of which the last three are made.
func TestTickGoesRound(t *testing.T) {
	v := make([]uint64, api.MaxNumber+1)
	v[0], v[api.MaxNumber] = 8, most-2
	for range 3 {
		v = vector.Tick(v, api.MaxNumber)
	}
	checkEqual(t, "three ticks", v, []uint64{8})
}

func TestTickGreatest(t *testing.T) {
	want := make([]uint64, api.MaxNumber+1)
	want[api.MaxNumber] = 1
	if got := vector.Tick(nil, api.MaxNumber); !slices.Equal(got, want) {
		t.Errorf("Tick of counter MaxNumber: got %d counters, want a 1 behind %d zeros", len(got), api.MaxNumber)
	}
	if got := vector.Tick(nil, api.MaxNumber+1); len(got) != 0 {
		t.Errorf("Tick beyond MaxNumber: got %d counters, want none", len(got))
	}
}

func TestJoin(t *testing.T) {
	for _, c := range []struct{ v, w, want []uint64 }{
		{nil, nil, nil},
		{nil, []uint64{}, nil},
		{nil, []uint64{3}, []uint64{3}},
		{[]uint64{3}, []uint64{}, []uint64{3}},
		{[]uint64{1, 2}, []uint64{2, 1, 3}, []uint64{2, 2, 3}},
		{[]uint64{2, 1, 3}, []uint64{1, 2}, []uint64{2, 2, 3}},
		{[]uint64{1, 2}, []uint64{1, 2}, []uint64{1, 2}},
		{[]uint64{5, 0}, []uint64{0, 5}, []uint64{5, 5}},
		{[]uint64{0, 0}, []uint64{0, 0, 0}, nil},
		{[]uint64{1, 0}, []uint64{0, 0, 0}, []uint64{1}},
		{[]uint64{0, 0, 0}, []uint64{1, 0}, []uint64{1}},
		{[]uint64{0, 4, 0, 0}, nil, []uint64{0, 4}},
		{[]uint64{1, 0, 0, 0}, []uint64{0, 4, 0}, []uint64{1, 4}},
		{[]uint64{most, 1}, []uint64{1, most}, []uint64{most, most}},
		{[]uint64{1 << 63}, []uint64{1<<63 - 1}, []uint64{1 << 63}},
		{[]uint64{1 << 32, 1}, []uint64{1, 1 << 32}, []uint64{1 << 32, 1 << 32}},
		{[]uint64{5}, []uint64{2}, []uint64{5}}, // neither the sum, nor all bits of both
	} {
		if got := vector.Join(c.v, c.w); !slices.Equal(got, c.want) {
			t.Errorf("Join(%v, %v): got %v, want %v", c.v, c.w, got, c.want)
		}
	}
}

func TestWithin(t *testing.T) {
	for _, c := range []struct {
		v, w []uint64
		want bool
	}{
		{nil, nil, true},
		{nil, []uint64{}, true},
		{nil, []uint64{3}, true},
		{[]uint64{3}, nil, false},
		{[]uint64{0, 0}, nil, true},
		{[]uint64{0, 0, 1}, nil, false},
		{[]uint64{1, 2}, []uint64{1, 2}, true},
		{[]uint64{1, 2}, []uint64{1, 3}, true},
		{[]uint64{1, 3}, []uint64{1, 2}, false},
		{[]uint64{2, 2}, []uint64{1, 3}, false}, // and the other way round too
		{[]uint64{1, 3}, []uint64{2, 2}, false},
		{[]uint64{1}, []uint64{1, 5}, true},
		{[]uint64{1, 5}, []uint64{1}, false},
		{[]uint64{1, 0, 0}, []uint64{1}, true},
		{[]uint64{0, 1}, []uint64{9}, false},
		{[]uint64{0, 1, 0}, []uint64{9, 1}, true},
		{[]uint64{1}, []uint64{2, 0, 0}, true},
		{[]uint64{most}, []uint64{most}, true},
		{[]uint64{most}, []uint64{most - 1}, false},
		{[]uint64{1}, []uint64{most}, true},
		{[]uint64{1 << 63}, []uint64{1<<63 - 1}, false},
		{[]uint64{4}, []uint64{3}, false}, // numbers are compared, not their bits
		{[]uint64{3}, []uint64{4}, true},
	} {
		if got := vector.Within(c.v, c.w); got != c.want {
			t.Errorf("Within(%v, %v): got %v, want %v", c.v, c.w, got, c.want)
		}
	}
}

// checkPair holds Join and Within against the chapter's words, counter by counter.
func checkPair(t *testing.T, v, w []uint64) {
	t.Helper()
	n := max(len(v), len(w))
	greater := func(i int) uint64 { return max(counter(v, i), counter(w, i)) }
	checkClock(t, "Join", vector.Join(v, w), n, greater)
	within := true
	for i := range n {
		within = within && counter(v, i) <= counter(w, i)
	}
	if vector.Within(v, w) != within {
		t.Fatalf("Within of %d and %d counters: got %v, want %v", len(v), len(w), !within, within)
	}
}

func TestEverySmallPair(t *testing.T) {
	for _, v := range small() {
		for _, w := range small() {
			checkPair(t, v, w)
		}
	}
}

func TestGreatPairs(t *testing.T) {
	all := append(great(), nil, []uint64{9}, []uint64{0, 0, 0})
	for _, v := range all {
		for _, w := range all {
			checkPair(t, v, w)
		}
	}
}

// TestTrailingZerosDoNotMatter: clocks that differ by them alone get the same answers.
func TestTrailingZerosDoNotMatter(t *testing.T) {
	longer := func(v []uint64) []uint64 { return append(slices.Clone(v), 0, 0) }
	for _, v := range small() {
		for i := -1; i < 6; i++ {
			if vector.At(v, i) != vector.At(longer(v), i) {
				t.Errorf("At(%v, %d) changes with zeros behind it", v, i)
			}
			checkEqual(t, "Tick with zeros behind", vector.Tick(longer(v), i), vector.Tick(v, i))
		}
		for _, w := range small() {
			want, within := vector.Join(v, w), vector.Within(v, w)
			checkEqual(t, "Join with zeros behind the first", vector.Join(longer(v), w), want)
			checkEqual(t, "Join with zeros behind the second", vector.Join(v, longer(w)), want)
			if vector.Within(longer(v), w) != within || vector.Within(v, longer(w)) != within {
				t.Errorf("Within(%v, %v) changes with zeros behind", v, w)
			}
		}
	}
}

// TestLattice: Within is an order, and Join answers the least clock above two others.
func TestLattice(t *testing.T) {
	var all [][]uint64
	for _, v := range small() {
		if len(v) < 3 {
			all = append(all, v)
		}
	}
	for _, v := range all {
		plain := vector.Join(v, nil) // v without trailing zeros
		checkEqual(t, "Join of a clock with itself", vector.Join(v, v), plain)
		for _, w := range all {
			joined := vector.Join(v, w)
			checkEqual(t, "Join the other way round", vector.Join(w, v), joined)
			if !vector.Within(v, joined) || !vector.Within(w, joined) {
				t.Errorf("Join(%v, %v) is not above both", v, w)
			}
			if vector.Within(v, w) && vector.Within(w, v) && !slices.Equal(plain, vector.Join(w, nil)) {
				t.Errorf("%v and %v are within each other", v, w)
			}
			for _, u := range all {
				checkEqual(t, "Join of three", vector.Join(joined, u), vector.Join(v, vector.Join(w, u)))
				if vector.Within(joined, u) != (vector.Within(v, u) && vector.Within(w, u)) {
					t.Errorf("Join(%v, %v) is not the least above both: %v", v, w, u)
				}
				if vector.Within(v, w) && vector.Within(w, u) && !vector.Within(v, u) {
					t.Errorf("%v is within %v within %v", v, w, u)
				}
			}
		}
	}
}

// TestTickIsAbove: a clock is within its tick and not the other way round, unless the counter goes round.
func TestTickIsAbove(t *testing.T) {
	for _, v := range small() {
		for i := range 5 {
			up := counter(v, i) != most
			ticked := vector.Tick(v, i)
			if vector.Within(v, ticked) != up || vector.Within(ticked, v) == up {
				t.Errorf("Tick(%v, %d): got %v", v, i, ticked)
			}
		}
	}
}

// view is the first n of counters whose spare capacity holds more that must be neither read nor written.
func view(n int) (whole, v []uint64) {
	whole = []uint64{8, 64, 0, most, 7}
	return whole, whole[:n]
}

func TestArgumentsStay(t *testing.T) {
	kept, _ := view(0)
	for n := range len(kept) + 1 {
		for m := range len(kept) + 1 {
			whole, v := view(n)
			others, w := view(m)
			for i := -1; i < 8; i++ {
				vector.At(v, i)
				vector.Tick(v, i)
			}
			vector.Tick(v, api.MaxNumber+1)
			vector.Join(v, w)
			vector.Within(v, w)
			if !slices.Equal(whole, kept) || !slices.Equal(others, kept) {
				t.Fatalf("an argument was changed: %v %v", whole, others)
			}
		}
	}
}

func TestSpareCapacityIsNotRead(t *testing.T) {
	for n := range 6 {
		_, v := view(n)
		plain := make([]uint64, n) // without spare capacity
		copy(plain, v)
		for i := -1; i < 8; i++ {
			if vector.At(v, i) != vector.At(plain, i) {
				t.Errorf("At reads counter %d beyond %d", i, n)
			}
			checkEqual(t, "Tick", vector.Tick(v, i), vector.Tick(plain, i))
		}
		for _, w := range [][]uint64{nil, {1, 65, 1, 1, 1}, {1, 64, 0, 5, 7}, {most, most, 0, 5}} {
			checkEqual(t, "Join", vector.Join(v, w), vector.Join(plain, w))
			checkEqual(t, "Join", vector.Join(w, v), vector.Join(w, plain))
			if vector.Within(v, w) != vector.Within(plain, w) || vector.Within(w, v) != vector.Within(w, plain) {
				t.Errorf("Within reads beyond %d counters", n)
			}
		}
	}
}

// overwrite writes all that a caller could reach by a result, what an append would write too.
func overwrite(v []uint64) {
	v = v[:cap(v)]
	for i := range v {
		v[i] = 99
	}
}

// TestResultsAreNew: a result does not change with an argument, nor an argument or the next answer with a result.
func TestResultsAreNew(t *testing.T) {
	for _, c := range []struct {
		what string
		call func(v, w []uint64) []uint64
		want []uint64
	}{
		{"Tick", func(v, w []uint64) []uint64 { return vector.Tick(v, 1) }, []uint64{3, 6}},
		{"Tick of the last counter", func(v, w []uint64) []uint64 { return vector.Tick(v, 3) }, []uint64{3, 5, 0, 1}},
		{"Tick of no counter", func(v, w []uint64) []uint64 { return vector.Tick(v, -1) }, []uint64{3, 5}},
		{"Tick beyond MaxNumber", func(v, w []uint64) []uint64 { return vector.Tick(v, api.MaxNumber+1) }, []uint64{3, 5}},
		{"Join", vector.Join, []uint64{3, 5}},
		{"Join with none", func(v, w []uint64) []uint64 { return vector.Join(v, nil) }, []uint64{3, 5}},
		{"Join of none", func(v, w []uint64) []uint64 { return vector.Join(nil, v) }, []uint64{3, 5}},
		{"Join the other way round", func(v, w []uint64) []uint64 { return vector.Join(w, v) }, []uint64{3, 5}},
		{"Join with itself", func(v, w []uint64) []uint64 { return vector.Join(v, v) }, []uint64{3, 5}},
	} {
		for _, zeros := range []int{0, 2} {
			v, w := append([]uint64{3, 5}, make([]uint64, zeros)...), append([]uint64{1}, make([]uint64, zeros)...)
			got := c.call(v, w)
			next := c.call(v, w)
			checkEqual(t, c.what, got, c.want)
			overwrite(got)
			checkEqual(t, c.what+": the next answer", next, c.want)
			checkEqual(t, c.what+": the first argument", v, append([]uint64{3, 5}, make([]uint64, zeros)...))
			checkEqual(t, c.what+": the second argument", w, append([]uint64{1}, make([]uint64, zeros)...))
			overwrite(v)
			overwrite(w)
			checkEqual(t, c.what+": after the arguments changed", next, c.want)
		}
	}
}

// TestEmptyResultsAreNew: not even behind an empty result lies the argument's memory.
func TestEmptyResultsAreNew(t *testing.T) {
	v, w := []uint64{0, 0, 0}, []uint64{0, 0}
	overwrite(vector.Tick(v, -1))
	overwrite(vector.Tick(v, api.MaxNumber+1))
	overwrite(vector.Tick(v[:0], -1))
	overwrite(vector.Join(v, w))
	overwrite(vector.Join(v[:0], w[:0]))
	checkEqual(t, "the first argument", v, []uint64{0, 0, 0})
	checkEqual(t, "the second argument", w, []uint64{0, 0})
	v = []uint64{most, 0}
	overwrite(vector.Tick(v, 0))
	checkEqual(t, "the argument of a tick that goes round", v, []uint64{most, 0})
}
