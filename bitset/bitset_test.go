package bitset_test

import (
	"math"
	"slices"
	"testing"

	"forkwright/api"
	"forkwright/bitset"
)

const full = math.MaxUint64

// samples: sets with and without trailing zero words, at the edges of words, and beyond MaxNumber.
func samples() [][]uint64 {
	wide := make([]uint64, api.MaxNumber/64+1)
	wide[0], wide[len(wide)-1] = 1, 1<<63
	beyond := make([]uint64, api.MaxNumber/64+3)
	beyond[len(beyond)-1] = 6
	return [][]uint64{
		nil, {}, {0}, {0, 0, 0}, {1}, {1, 0}, {8, 64}, {8, 64, 0, 0}, {1 << 63}, {0, 1}, {1 << 63, 1},
		{full}, {full, full}, {0, full, 0, 5}, {full - 1, 0, 3, 0}, {0x5555555555555555, 0xaaaaaaaaaaaaaaaa}, wide, beyond,
	}
}

// has is the chapter's own rule: bit n mod 64 of word n / 64.
func has(s []uint64, n int) bool {
	return n/64 < len(s) && s[n/64]>>(n%64)&1 == 1
}

func checkWords(t *testing.T, what string, got, want []uint64) {
	t.Helper()
	if !slices.Equal(got, want) {
		t.Errorf("%s: got %v, want %v", what, got, want)
	}
}

func TestOf(t *testing.T) {
	for _, c := range []struct {
		l    []int
		want []uint64
	}{
		{nil, nil},
		{[]int{}, nil},
		{[]int{3, 70}, []uint64{8, 64}},
		{[]int{70, 3}, []uint64{8, 64}},
		{[]int{5, 4, 3, 5}, []uint64{56}},
		{[]int{0}, []uint64{1}},
		{[]int{63}, []uint64{1 << 63}},
		{[]int{64}, []uint64{0, 1}},
		{[]int{63, 64}, []uint64{1 << 63, 1}},
		{[]int{127, 128}, []uint64{0, 1 << 63, 1}},
		{[]int{-1}, nil},
		{[]int{-1, -64, math.MinInt}, nil},
		{[]int{api.MaxNumber + 1}, nil},
		{[]int{api.MaxNumber + 1, api.MaxNumber + 64, math.MaxInt}, nil},
		{[]int{math.MinInt, -1, 1, api.MaxNumber + 1, math.MaxInt}, []uint64{2}},
	} {
		checkWords(t, "Of", bitset.Of(c.l), c.want)
	}
}

func TestOfGreatest(t *testing.T) {
	want := make([]uint64, 1024)
	want[0], want[1023] = 1, 1<<63
	checkWords(t, "Of 0 and MaxNumber", bitset.Of([]int{65535, 65536, 0, -1}), want)
}

func TestOfAll(t *testing.T) {
	var l []int
	for n := -100; n <= api.MaxNumber+100; n++ {
		l = append(l, n)
	}
	s := bitset.Of(l)
	if len(s) != 1024 {
		t.Fatalf("%d words, want 1024", len(s))
	}
	for i, w := range s {
		if w != full {
			t.Errorf("word %d is %x, want all bits", i, w)
		}
	}
}

func TestList(t *testing.T) {
	for _, c := range []struct {
		s    []uint64
		want []int
	}{
		{nil, nil},
		{[]uint64{}, nil},
		{[]uint64{0, 0}, nil},
		{[]uint64{8, 64}, []int{3, 70}},
		{[]uint64{8, 64, 0, 0}, []int{3, 70}},
		{[]uint64{1}, []int{0}},
		{[]uint64{1 << 63}, []int{63}},
		{[]uint64{1<<63 | 1, 1<<63 | 1}, []int{0, 63, 64, 127}},
		{[]uint64{0, 0, 7}, []int{128, 129, 130}},
	} {
		if got := bitset.List(c.s); !slices.Equal(got, c.want) {
			t.Errorf("List(%v): got %v, want %v", c.s, got, c.want)
		}
	}
}

func TestListOfGreatest(t *testing.T) {
	l := []int{0, 63, 64, api.MaxNumber}
	if got := bitset.List(bitset.Of(l)); !slices.Equal(got, l) {
		t.Errorf("got %v, want %v", got, l)
	}
	s := make([]uint64, 1025)
	s[1024] = 1
	if got := bitset.List(s); !slices.Equal(got, []int{api.MaxNumber + 1}) {
		t.Errorf("got %v, want %v: only Of ignores what is beyond", got, api.MaxNumber+1)
	}
}

func TestListHasEveryElement(t *testing.T) {
	for i, s := range samples() {
		var want []int
		for n := range len(s) * 64 {
			if has(s, n) {
				want = append(want, n)
			}
		}
		if got := bitset.List(s); !slices.Equal(got, want) {
			t.Errorf("sample %d: got %v, want %v", i, got, want)
		}
	}
}

func TestAnd(t *testing.T) {
	for _, c := range []struct{ s, t, want []uint64 }{
		{nil, nil, nil},
		{nil, []uint64{8}, nil},
		{[]uint64{8}, []uint64{}, nil},
		{[]uint64{8, 64}, []uint64{56}, []uint64{8}},
		{[]uint64{56}, []uint64{8, 64}, []uint64{8}},
		{[]uint64{8, 64}, []uint64{0, 64, 0}, []uint64{0, 64}},
		{[]uint64{1, 2, 4}, []uint64{1, 1, 1}, []uint64{1}},
		{[]uint64{1, 2}, []uint64{2, 1}, nil},
		{[]uint64{1 << 63, 1}, []uint64{1 << 63, 1 << 63}, []uint64{1 << 63}},
		{[]uint64{0, 0}, []uint64{0, 0, 0}, nil},
	} {
		checkWords(t, "And", bitset.And(c.s, c.t), c.want)
	}
}

func TestOr(t *testing.T) {
	for _, c := range []struct{ s, t, want []uint64 }{
		{nil, nil, nil},
		{nil, []uint64{8}, []uint64{8}},
		{[]uint64{8}, []uint64{}, []uint64{8}},
		{[]uint64{8, 64}, []uint64{56}, []uint64{56, 64}},
		{[]uint64{56}, []uint64{8, 64}, []uint64{56, 64}},
		{[]uint64{1 << 63}, []uint64{0, 1}, []uint64{1 << 63, 1}},
		{[]uint64{1, 0}, []uint64{2, 0, 0}, []uint64{3}},
		{[]uint64{0, 0}, []uint64{0, 0, 0}, nil},
		{[]uint64{0, 0, 1, 0}, nil, []uint64{0, 0, 1}},
	} {
		checkWords(t, "Or", bitset.Or(c.s, c.t), c.want)
	}
}

func TestLess(t *testing.T) {
	for _, c := range []struct{ s, t, want []uint64 }{
		{nil, nil, nil},
		{nil, []uint64{8}, nil},
		{[]uint64{8}, []uint64{}, []uint64{8}},
		{[]uint64{8, 64}, []uint64{56}, []uint64{0, 64}},
		{[]uint64{56}, []uint64{8, 64}, []uint64{48}},
		{[]uint64{8, 64}, []uint64{0, 64}, []uint64{8}},
		{[]uint64{8, 64}, []uint64{full, full, full}, nil},
		{[]uint64{1 << 63, 1}, []uint64{0, 1}, []uint64{1 << 63}},
		{[]uint64{1, 0, 0}, []uint64{2, 0}, []uint64{1}},
		{[]uint64{0, 0}, []uint64{0, 0, 0}, nil},
	} {
		checkWords(t, "Less", bitset.Less(c.s, c.t), c.want)
	}
}

func TestOperationsOnEveryElement(t *testing.T) {
	for i, s := range samples() {
		for j, u := range samples() {
			and, or, less := bitset.And(s, u), bitset.Or(s, u), bitset.Less(s, u)
			for n := range max(len(s), len(u))*64 + 64 {
				a, b := has(s, n), has(u, n)
				if has(and, n) != (a && b) || has(or, n) != (a || b) || has(less, n) != (a && !b) {
					t.Fatalf("samples %d and %d: wrong about %d", i, j, n)
				}
			}
			for _, got := range [][]uint64{and, or, less} {
				if len(got) > 0 && got[len(got)-1] == 0 {
					t.Errorf("samples %d and %d: %v has a trailing zero word", i, j, got)
				}
			}
		}
	}
}

func TestSize(t *testing.T) {
	for _, c := range []struct {
		s    []uint64
		want int
	}{
		{nil, 0},
		{[]uint64{}, 0},
		{[]uint64{0, 0}, 0},
		{[]uint64{8, 64}, 2},
		{[]uint64{8, 64, 0}, 2},
		{[]uint64{1<<63 | 1, 1}, 3},
		{[]uint64{full, 0, full}, 128},
		{bitset.Of([]int{-1, 0, 0, api.MaxNumber, api.MaxNumber + 1}), 2},
	} {
		if got := bitset.Size(c.s); got != c.want {
			t.Errorf("Size(%v): got %d, want %d", c.s, got, c.want)
		}
	}
}

func TestWithin(t *testing.T) {
	for _, c := range []struct {
		s, t []uint64
		want bool
	}{
		{nil, nil, true},
		{nil, []uint64{}, true},
		{nil, []uint64{8}, true},
		{[]uint64{8}, nil, false},
		{[]uint64{0, 0}, nil, true},
		{[]uint64{8}, []uint64{56}, true},
		{[]uint64{56}, []uint64{8}, false},
		{[]uint64{8, 64}, []uint64{8, 64}, true},
		{[]uint64{8, 64}, []uint64{8}, false},
		{[]uint64{8}, []uint64{8, 64}, true},
		{[]uint64{8, 64}, []uint64{full, full - 64}, false},
		{[]uint64{8, 0, 0}, []uint64{8}, true},
		{[]uint64{1 << 63}, []uint64{0, 1}, false},
		{[]uint64{0, 1}, []uint64{1 << 63}, false},
	} {
		if got := bitset.Within(c.s, c.t); got != c.want {
			t.Errorf("Within(%v, %v): got %v, want %v", c.s, c.t, got, c.want)
		}
	}
}

func TestWithinEveryElement(t *testing.T) {
	for i, s := range samples() {
		for j, u := range samples() {
			want := true
			for n := range len(s) * 64 {
				want = want && (!has(s, n) || has(u, n))
			}
			if got := bitset.Within(s, u); got != want {
				t.Errorf("samples %d and %d: got %v, want %v", i, j, got, want)
			}
		}
	}
}

// view is the first n of words whose spare capacity holds more that must be neither read nor written.
func view(n int) (words, s []uint64) {
	words = []uint64{8, 64, 3, full, full}
	return words, words[:n]
}

func TestArgumentsStay(t *testing.T) {
	for n := range 4 {
		for m := range 4 {
			words, s := view(n)
			others, u := view(m)
			numbers := []int{70, -1, 3, 200, 300}
			bitset.Of(numbers[:n])
			bitset.List(s)
			bitset.And(s, u)
			bitset.Or(s, u)
			bitset.Less(s, u)
			bitset.Size(s)
			bitset.Within(s, u)
			whole, _ := view(0)
			if !slices.Equal(words, whole) || !slices.Equal(others, whole) || !slices.Equal(numbers, []int{70, -1, 3, 200, 300}) {
				t.Fatalf("an argument was changed: %v %v %v", words, others, numbers)
			}
		}
	}
}

func TestSpareCapacityIsNotRead(t *testing.T) {
	_, s := view(1)
	_, empty := view(0)
	checkWords(t, "And", bitset.And(s, []uint64{full, full, full}), []uint64{8})
	checkWords(t, "Or", bitset.Or(s, nil), []uint64{8})
	checkWords(t, "Less", bitset.Less([]uint64{full, full}, s), []uint64{full - 8, full})
	if got := bitset.List(s); !slices.Equal(got, []int{3}) {
		t.Errorf("List: got %v", got)
	}
	if bitset.Size(empty) != 0 || bitset.Within([]uint64{8, 64}, s) || !bitset.Within(s, []uint64{8}) {
		t.Error("Size or Within reads what is beyond the length")
	}
	checkWords(t, "Of", bitset.Of([]int{3, 70}[:1]), []uint64{8})
}

func TestResultsAreNew(t *testing.T) {
	for name, op := range map[string]func(s, t []uint64) []uint64{"And": bitset.And, "Or": bitset.Or, "Less": bitset.Less} {
		s, u := []uint64{8, 64}, []uint64{8, 64}
		if name == "Less" {
			u = []uint64{0, 0}
		}
		got := op(s, u)
		checkWords(t, name, got, []uint64{8, 64})
		s[0], s[1], u[0], u[1] = full, full, full, full
		checkWords(t, name+" after its arguments changed", got, []uint64{8, 64})
		clear(got)
		checkWords(t, name+": an argument after the result changed", s, []uint64{full, full})
		checkWords(t, name+": an argument after the result changed", u, []uint64{full, full})
	}
}

func TestResultsAreApart(t *testing.T) {
	s := []uint64{8, 64}
	first := bitset.Or(s, nil)
	first[0] = 0
	checkWords(t, "Or again", bitset.Or(s, nil), []uint64{8, 64})
	l := bitset.List(s)
	l[0] = 9
	if got := bitset.List(s); !slices.Equal(got, []int{3, 70}) {
		t.Errorf("List again: got %v", got)
	}
	of := bitset.Of([]int{3})
	of[0] = 0
	checkWords(t, "Of again", bitset.Of([]int{3}), []uint64{8})
}

func TestAlgebra(t *testing.T) {
	for i, s := range samples() {
		for j, u := range samples() {
			checkWords(t, "And commutes", bitset.And(s, u), bitset.And(u, s))
			checkWords(t, "Or commutes", bitset.Or(s, u), bitset.Or(u, s))
			checkWords(t, "s is what it shares and what it does not", bitset.Or(bitset.And(s, u), bitset.Less(s, u)), bitset.Or(s, nil))
			if bitset.Within(s, u) != (len(bitset.Less(s, u)) == 0) {
				t.Errorf("samples %d and %d: Within and Less differ", i, j)
			}
			if bitset.Size(s)+bitset.Size(u) != bitset.Size(bitset.And(s, u))+bitset.Size(bitset.Or(s, u)) {
				t.Errorf("samples %d and %d: sizes do not add up", i, j)
			}
		}
	}
}
