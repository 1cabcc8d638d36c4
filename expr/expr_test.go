package expr_test

import (
	"math"
	"math/big"
	"reflect"
	"slices"
	"strconv"
	"strings"
	"testing"

	"forkwright/api"
	"forkwright/expr"
)

func num(n int) api.Expr                  { return api.Expr{Kind: api.ExNum, N: n} }
func name(s string) api.Expr              { return api.Expr{Kind: api.ExName, Name: s} }
func op(kind int, a, b api.Expr) api.Expr { return api.Expr{Kind: kind, Args: []api.Expr{a, b}} }
func add(a, b api.Expr) api.Expr          { return op(api.ExAdd, a, b) }
func sub(a, b api.Expr) api.Expr          { return op(api.ExSub, a, b) }
func mul(a, b api.Expr) api.Expr          { return op(api.ExMul, a, b) }
func div(a, b api.Expr) api.Expr          { return op(api.ExDiv, a, b) }
func mod(a, b api.Expr) api.Expr          { return op(api.ExMod, a, b) }
func less(a, b api.Expr) api.Expr         { return op(api.ExLess, a, b) }
func same(a, b api.Expr) api.Expr         { return op(api.ExSame, a, b) }

func kinds() []int {
	return []int{api.ExAdd, api.ExSub, api.ExMul, api.ExDiv, api.ExMod, api.ExLess, api.ExSame}
}

// strangeKinds are kinds that no chapter defines.
func strangeKinds() []int {
	return []int{0, -1, -2, -3, -9, 10, 11, 99, 256 + api.ExNum, 256 + api.ExName, 256 + api.ExAdd, 1<<32 + api.ExNum, 1<<32 + api.ExName, 1<<32 + api.ExSame, math.MinInt, math.MinInt + api.ExAdd, math.MaxInt}
}

// zeros are expressions that stand for 0 without being the number 0, full of what does not count.
func zeros() []api.Expr {
	l := []api.Expr{{}}
	for _, kind := range strangeKinds() {
		l = append(l, api.Expr{Kind: kind, N: 5, Name: "x", Args: []api.Expr{num(3), name("x"), num(4)}}, api.Expr{Kind: kind})
	}
	for _, kind := range kinds() {
		l = append(l, api.Expr{Kind: kind}, api.Expr{Kind: kind, N: 5, Name: "x", Args: []api.Expr{}}, api.Expr{Kind: kind, N: 5, Name: "x", Args: []api.Expr{name("x")}})
	}
	return l
}

// grand are numbers at the edges of what there is.
func grand() []int {
	return []int{0, 1, -1, 2, -2, 3, -3, 7, -7, 10, 63, 64, 1 << 31, -1 << 31, 1 << 32, 1<<32 - 1, 3037000500, -3037000500, 1 << 62, -1 << 62, math.MaxInt, math.MaxInt - 1, math.MinInt, math.MinInt + 1}
}

// text tells, by the chapter's first paragraph, what an expression is: 7 is a number, <x> a name, (3 a b) an operation.
func text(e api.Expr) string {
	var b strings.Builder
	tell(&b, e)
	return b.String()
}

func tell(b *strings.Builder, e api.Expr) {
	if e.Kind == api.ExNum {
		b.WriteString(strconv.Itoa(e.N))
	} else if e.Kind == api.ExName {
		b.WriteString("<" + e.Name + ">")
	} else if slices.Contains(kinds(), e.Kind) && len(e.Args) > 1 {
		b.WriteString("(" + strconv.Itoa(e.Kind) + " ")
		tell(b, e.Args[0])
		b.WriteString(" ")
		tell(b, e.Args[1])
		b.WriteString(")")
	} else {
		b.WriteString("0")
	}
}

// proper holds if e and its parts have the fields that their kinds use, and nothing else.
func proper(e api.Expr) bool {
	switch {
	case e.Kind == api.ExNum:
		return e.Name == "" && len(e.Args) == 0
	case e.Kind == api.ExName:
		return e.N == 0 && len(e.Args) == 0
	}
	return slices.Contains(kinds(), e.Kind) && e.N == 0 && e.Name == "" && len(e.Args) == 2 && proper(e.Args[0]) && proper(e.Args[1])
}

// wrapped is the signed number of 64 bits that differs from n by a multiple of 2^64.
func wrapped(n *big.Int) int {
	m := new(big.Int).Mod(n, new(big.Int).Lsh(big.NewInt(1), 64))
	return int(m.Uint64())
}

// reckon is the value of an operation by the chapter's own words, in numbers of any size.
func reckon(kind, a, b int) int {
	x, y := big.NewInt(int64(a)), big.NewInt(int64(b))
	holds := map[int]int{api.ExLess: -1, api.ExSame: 0}
	switch kind {
	case api.ExAdd:
		return wrapped(x.Add(x, y))
	case api.ExSub:
		return wrapped(x.Sub(x, y))
	case api.ExMul:
		return wrapped(x.Mul(x, y))
	case api.ExDiv, api.ExMod:
		if b == 0 {
			return 0
		}
		q, r := new(big.Int).QuoRem(x, y, new(big.Int))
		if kind == api.ExDiv {
			return wrapped(q)
		}
		return wrapped(r)
	}
	if x.Cmp(y) == holds[kind] {
		return 1
	}
	return 0
}

func value(e api.Expr, env []api.Bind) int {
	switch {
	case e.Kind == api.ExNum:
		return e.N
	case e.Kind == api.ExName:
		last := 0
		for _, b := range env {
			if b.Name == e.Name {
				last = b.Value
			}
		}
		return last
	case slices.Contains(kinds(), e.Kind) && len(e.Args) > 1:
		return reckon(e.Kind, value(e.Args[0], env), value(e.Args[1], env))
	}
	return 0
}

// names reads them off the text.
func names(e api.Expr) []string {
	var l []string
	for _, part := range strings.Split(text(e), "<")[1:] {
		n, _, _ := strings.Cut(part, ">")
		if !slices.Contains(l, n) {
			l = append(l, n)
		}
	}
	return l
}

func put(e api.Expr, n string, by api.Expr) string {
	return strings.ReplaceAll(text(e), "<"+n+">", text(by))
}

// folded replaces operations on two numbers, one by one, as long as there is any.
func folded(e api.Expr) string {
	s := text(e)
	for {
		more := false
		for _, part := range strings.Split(s, "(")[1:] {
			inner, _, closed := strings.Cut(part, ")")
			if !closed || strings.Contains(inner, "<") {
				continue
			}
			kind, args, _ := strings.Cut(inner, " ")
			left, right, _ := strings.Cut(args, " ")
			k, _ := strconv.Atoi(kind)
			a, errA := strconv.Atoi(left)
			b, errB := strconv.Atoi(right)
			if errA != nil || errB != nil {
				continue
			}
			s = strings.ReplaceAll(s, "("+inner+")", strconv.Itoa(reckon(k, a, b)))
			more = true
			break
		}
		if !more {
			return s
		}
	}
}

func checkEval(t *testing.T, e api.Expr, env []api.Bind, want int) {
	t.Helper()
	if got := expr.Eval(e, env); got != want {
		t.Fatalf("Eval(%s, %v): got %d, want %d", text(e), env, got, want)
	}
}

func checkNames(t *testing.T, e api.Expr, want []string) {
	t.Helper()
	if got := expr.Names(e); !slices.Equal(got, want) {
		t.Fatalf("Names(%s): got %q, want %q", text(e), got, want)
	}
}

func checkPut(t *testing.T, e api.Expr, n string, by api.Expr, want string) {
	t.Helper()
	got := expr.Put(e, n, by)
	if text(got) != want || !proper(got) {
		t.Fatalf("Put(%s, %q, %s): got %s (%+v), want %s", text(e), n, text(by), text(got), got, want)
	}
}

func checkFold(t *testing.T, e api.Expr, want string) {
	t.Helper()
	got := expr.Fold(e)
	if text(got) != want || !proper(got) {
		t.Fatalf("Fold(%s): got %s (%+v), want %s", text(e), text(got), got, want)
	}
}

// check holds every function against the chapter's own words.
func check(t *testing.T, e api.Expr) {
	t.Helper()
	for _, env := range envs() {
		checkEval(t, e, env, value(e, env))
	}
	checkNames(t, e, names(e))
	for _, n := range []string{"x", "y", "", "none"} {
		for _, by := range insteads() {
			checkPut(t, e, n, by, put(e, n, by))
		}
	}
	checkFold(t, e, folded(e))
}

func envs() [][]api.Bind {
	return [][]api.Bind{
		nil,
		{},
		{{Name: "x", Value: 4}},
		{{Name: "y", Value: 3}, {Name: "x", Value: -5}, {Name: "", Value: 9}},
		{{Name: "x", Value: 1}, {Name: "y", Value: 2}, {Name: "x", Value: math.MinInt}, {Name: "z", Value: 8}},
		{{Name: "x", Value: 7}, {Name: "x", Value: 0}, {Name: "y", Value: 6}, {Name: "y", Value: 6}},
	}
}

func insteads() []api.Expr {
	return []api.Expr{
		num(2),
		name("y"),
		add(name("x"), num(1)),
		{Kind: api.ExNum, N: -3, Name: "x", Args: []api.Expr{num(1), num(2)}},
		{Kind: api.ExMul, N: 4, Name: "x", Args: []api.Expr{name("y"), {Kind: 12, N: 3}, name("x")}},
	}
}

func TestEval(t *testing.T) {
	x, y := name("x"), name("y")
	env := []api.Bind{{Name: "x", Value: 5}, {Name: "y", Value: -7}, {Name: "x", Value: 4}}
	for _, c := range []struct {
		e    api.Expr
		want int
	}{
		{add(num(2), mul(num(3), x)), 14}, // the chapter's example
		{num(0), 0},
		{num(-3), -3},
		{num(math.MinInt), math.MinInt},
		{x, 4},
		{y, -7},
		{name("X"), 0},
		{name("xx"), 0},
		{name(""), 0},
		{add(x, y), -3},
		{sub(x, y), 11},
		{sub(y, x), -11},
		{mul(x, y), -28},
		{div(y, x), -1},
		{div(x, y), 0},
		{mod(y, x), -3},
		{mod(x, y), 4},
		{less(y, x), 1},
		{less(x, y), 0},
		{less(x, x), 0},
		{same(x, y), 0},
		{same(x, x), 1},
		{same(x, num(4)), 1},
		{sub(sub(num(10), num(4)), num(3)), 3},
		{sub(num(10), sub(num(4), num(3))), 9},
		{div(x, name("none")), 0},
		{mod(x, sub(num(3), num(3))), 0},
		{same(div(num(1), num(0)), mod(num(1), num(0))), 1},
		{less(less(y, x), same(x, x)), 0},
		{div(num(math.MinInt), num(-1)), math.MinInt},
		{mod(num(math.MinInt), num(-1)), 0},
		{add(num(math.MaxInt), num(1)), math.MinInt},
		{sub(num(math.MinInt), num(1)), math.MaxInt},
		{mul(num(math.MinInt), num(-1)), math.MinInt},
		{mul(num(1<<32), num(1<<32)), 0},
		{less(num(math.MinInt), num(math.MaxInt)), 1},
		{less(num(math.MaxInt), num(math.MinInt)), 0},
		{api.Expr{Kind: api.ExAdd, N: 7, Name: "y", Args: []api.Expr{num(1), x, num(9)}}, 5},
		{api.Expr{Kind: api.ExNum, N: 7, Name: "y", Args: []api.Expr{num(1), x}}, 7},
		{api.Expr{Kind: api.ExName, N: 7, Name: "y", Args: []api.Expr{num(1), x}}, -7},
	} {
		checkEval(t, c.e, env, c.want)
		checkEval(t, c.e, env, value(c.e, env))
	}
}

// TestEveryOperation: on numbers at the edges, whether they are told as numbers or come from names.
func TestEveryOperation(t *testing.T) {
	for _, kind := range kinds() {
		for _, a := range grand() {
			for _, b := range grand() {
				want := reckon(kind, a, b)
				checkEval(t, op(kind, num(a), num(b)), nil, want)
				checkEval(t, op(kind, name("a"), name("b")), []api.Bind{{Name: "b", Value: b}, {Name: "a", Value: a}}, want)
				checkFold(t, op(kind, num(a), num(b)), strconv.Itoa(want))
			}
		}
	}
}

// TestRounding: what the chapter says of quotients and remainders, without another division.
func TestRounding(t *testing.T) {
	for _, a := range grand() {
		for _, b := range grand() {
			q, r := expr.Eval(div(num(a), num(b)), nil), expr.Eval(mod(num(a), num(b)), nil)
			switch {
			case b == 0:
				if q != 0 || r != 0 {
					t.Errorf("%d by 0 is %d, remainder %d", a, q, r)
				}
			case q*b+r != a:
				t.Errorf("%d by %d is %d, remainder %d", a, b, q, r)
			case r != 0 && (r < 0) != (a < 0):
				t.Errorf("%d by %d leaves %d, which has another sign", a, b, r)
			case b != math.MinInt && r != math.MinInt && max(r, -r) >= max(b, -b):
				t.Errorf("%d by %d leaves %d, which is too much", a, b, r)
			}
		}
	}
}

// TestStandsForZero: alone and as a part, for every function.
func TestStandsForZero(t *testing.T) {
	for _, z := range zeros() {
		checkNames(t, z, nil)
		checkFold(t, z, "0")
		checkPut(t, z, "x", num(8), "0")
		checkPut(t, name("x"), "x", z, "0")
		for _, env := range envs() {
			checkEval(t, z, env, 0)
			checkEval(t, add(num(6), z), env, 6)
			checkEval(t, sub(z, num(6)), env, -6)
			checkEval(t, div(num(6), z), env, 0)
			checkEval(t, same(z, num(0)), env, 1)
		}
		checkFold(t, add(num(6), z), "6")
		checkFold(t, sub(z, z), "0")
		checkFold(t, sub(z, name("x")), "(4 0 <x>)")
		checkFold(t, same(z, z), "1")
		checkPut(t, mul(z, name("x")), "x", num(8), "(5 0 8)")
		checkNames(t, mul(z, name("y")), []string{"y"})
	}
}

func TestNames(t *testing.T) {
	x, y, z := name("x"), name("y"), name("z")
	for _, c := range []struct {
		e    api.Expr
		want []string
	}{
		{num(3), nil},
		{add(num(3), num(4)), nil},
		{x, []string{"x"}},
		{name(""), []string{""}},
		{add(x, x), []string{"x"}},
		{add(y, x), []string{"y", "x"}},
		{add(x, y), []string{"x", "y"}},
		{add(add(z, x), add(y, z)), []string{"z", "x", "y"}},
		{add(x, add(y, add(x, z))), []string{"x", "y", "z"}},
		{add(add(add(z, x), y), x), []string{"z", "x", "y"}},
		{mul(num(0), x), []string{"x"}},
		{add(name("X"), add(x, name("xx"))), []string{"X", "x", "xx"}},
		{add(name("x\x00"), add(x, name("\xff"))), []string{"x\x00", "x", "\xff"}},
		{api.Expr{Kind: api.ExAdd, Name: "n", Args: []api.Expr{x, y, z}}, []string{"x", "y"}},
		{api.Expr{Kind: api.ExNum, Name: "n", Args: []api.Expr{x, y}}, nil},
		{api.Expr{Kind: api.ExName, Name: "n", Args: []api.Expr{x, y}}, []string{"n"}},
	} {
		checkNames(t, c.e, c.want)
		checkNames(t, c.e, names(c.e))
	}
}

func TestPut(t *testing.T) {
	x, y := name("x"), name("y")
	for _, c := range []struct {
		e    api.Expr
		n    string
		by   api.Expr
		want api.Expr
	}{
		{num(3), "x", num(4), num(3)},
		{x, "x", num(4), num(4)},
		{x, "x", y, y},
		{y, "x", num(4), y},
		{x, "X", num(4), x},
		{x, "", num(4), x},
		{name(""), "", num(4), num(4)},
		{add(name(""), x), "", y, add(y, x)},
		{add(x, y), "x", y, add(y, y)},
		{add(x, y), "y", x, add(x, x)},
		{add(x, x), "x", add(x, num(1)), add(add(x, num(1)), add(x, num(1)))}, // once, not again and again
		{mul(add(x, y), less(y, x)), "x", sub(y, x), mul(add(sub(y, x), y), less(y, sub(y, x)))},
		{add(num(1), x), "x", num(2), add(num(1), num(2))}, // no value is worked out
		{x, "x", x, x},
		{api.Expr{Kind: api.ExAdd, N: 3, Name: "x", Args: []api.Expr{x, y, x}}, "x", num(1), add(num(1), y)},
		{api.Expr{Kind: api.ExNum, N: 3, Name: "x", Args: []api.Expr{x, y}}, "x", num(1), num(3)},
		{api.Expr{Kind: api.ExName, N: 3, Name: "y", Args: []api.Expr{x, x}}, "x", num(1), y},
		{x, "x", api.Expr{Kind: api.ExName, N: 3, Name: "y", Args: []api.Expr{x, x}}, y},
		{x, "x", api.Expr{Kind: api.ExDiv, N: 3, Name: "y", Args: []api.Expr{x, y, x}}, div(x, y)},
		{x, "x", api.Expr{Kind: api.ExDiv, N: 3, Name: "y", Args: []api.Expr{x}}, num(0)},
	} {
		checkPut(t, c.e, c.n, c.by, text(c.want))
		checkPut(t, c.e, c.n, c.by, put(c.e, c.n, c.by))
	}
}

func TestFold(t *testing.T) {
	x := name("x")
	for _, c := range []struct{ e, want api.Expr }{
		{num(3), num(3)},
		{x, x},
		{add(num(1), num(2)), num(3)},
		{add(x, num(2)), add(x, num(2))},
		{add(num(2), x), add(num(2), x)},
		{mul(num(0), x), mul(num(0), x)},
		{sub(x, x), sub(x, x)},
		{add(add(num(1), num(2)), x), add(num(3), x)},
		{add(add(num(1), x), num(2)), add(add(num(1), x), num(2))},
		{add(num(1), add(num(2), x)), add(num(1), add(num(2), x))},
		{mul(add(num(1), num(2)), sub(num(7), num(3))), num(12)},
		{less(x, mul(add(num(1), num(2)), sub(num(7), num(3)))), less(x, num(12))},
		{same(add(num(1), num(1)), num(2)), num(1)},
		{div(num(5), sub(num(1), num(1))), num(0)},
		{mod(num(-7), num(2)), num(-1)},
		{api.Expr{Kind: api.ExAdd, N: 3, Name: "x", Args: []api.Expr{num(1), num(2), x}}, num(3)},
		{api.Expr{Kind: api.ExAdd, N: 3, Name: "x", Args: []api.Expr{num(1), x, num(2)}}, add(num(1), x)},
		{api.Expr{Kind: api.ExNum, N: 3, Name: "x", Args: []api.Expr{x, x}}, num(3)},
		{api.Expr{Kind: api.ExName, N: 3, Name: "x", Args: []api.Expr{num(1), num(2)}}, x},
		{add(num(1), api.Expr{Kind: api.ExAdd, Args: []api.Expr{x}}), num(1)},
	} {
		checkFold(t, c.e, text(c.want))
		checkFold(t, c.e, folded(c.e))
	}
}

// leaves are one of each kind, some full of what does not count.
func leaves() []api.Expr {
	return []api.Expr{
		num(3),
		{Kind: api.ExNum, N: -7, Name: "x", Args: []api.Expr{num(1), name("x")}},
		name("x"),
		{Kind: api.ExName, N: 6, Name: "y", Args: []api.Expr{num(1), num(2)}},
		{Kind: 10, N: 5, Name: "x", Args: []api.Expr{num(1), name("x")}},
		{Kind: api.ExSub, N: 5, Name: "x", Args: []api.Expr{name("x")}},
	}
}

// flat are all operations on two leaves.
func flat() []api.Expr {
	var l []api.Expr
	for _, kind := range kinds() {
		for _, a := range leaves() {
			for _, b := range leaves() {
				l = append(l, op(kind, a, b))
			}
		}
	}
	return l
}

// TestEverySmallCase: every expression with up to two operations on leaves of every kind, and some with three.
func TestEverySmallCase(t *testing.T) {
	for _, e := range leaves() {
		check(t, e)
	}
	for i, e := range flat() {
		check(t, e)
		for j, leaf := range leaves() {
			for _, kind := range kinds() {
				check(t, op(kind, e, leaf))
				check(t, op(kind, leaf, e))
			}
			check(t, op(kinds()[(i+j)%7], e, flat()[(i*7+j*31)%len(flat())]))
		}
	}
}

// mixed is an expression of a fixed rule with so many operations, wrong ones among them.
func mixed(count int, next func(below int) int) api.Expr {
	if count == 0 {
		switch next(8) {
		case 0:
			return zeros()[next(len(zeros()))]
		case 1, 2:
			return num(grand()[next(len(grand()))])
		case 3, 4:
			return num(next(9) - 4)
		}
		return api.Expr{Kind: api.ExName, N: next(3), Name: []string{"x", "y", "", "z", "x2"}[next(5)]}
	}
	left := next(count)
	e := op(kinds()[next(7)], mixed(left, next), mixed(count-1-left, next))
	switch next(10) {
	case 0:
		e.N, e.Name = 5, "x"
	case 1:
		e.Args = append(e.Args, name("y"))
	}
	return e
}

func rule(seed int) func(below int) int {
	x := uint32(seed)*2654435761 + 12345
	return func(below int) int {
		x = x*1664525 + 1013904223
		return int(x>>10) % below
	}
}

func TestMixed(t *testing.T) {
	for seed := range 400 {
		check(t, mixed(seed%23, rule(seed)))
	}
}

// TestSubstitutionIsBinding: to put an expression in place of a name is to bind the name to its value.
func TestSubstitutionIsBinding(t *testing.T) {
	for seed := range 2000 {
		next := rule(seed)
		e, by := mixed(next(16), next), mixed(next(6), next)
		for _, n := range []string{"x", "y", "", "none"} {
			for _, env := range envs() {
				bound := append(slices.Clone(env), api.Bind{Name: n, Value: expr.Eval(by, env)})
				if got, want := expr.Eval(expr.Put(e, n, by), env), expr.Eval(e, bound); got != want {
					t.Fatalf("with %s for %q in %s the value is %d, with its value bound it is %d", text(by), n, text(e), got, want)
				}
			}
		}
	}
}

// TestFoldKeeps the value and the names, leaves no operation on two numbers, and has nothing left to do.
func TestFoldKeeps(t *testing.T) {
	for seed := range 2000 {
		e := mixed(seed%40, rule(seed))
		f := expr.Fold(e)
		for _, env := range envs() {
			checkEval(t, f, env, expr.Eval(e, env))
		}
		checkNames(t, f, expr.Names(e))
		checkFold(t, f, text(f))
		if rest := left(f); rest != "" {
			t.Fatalf("Fold(%s) leaves %s", text(e), rest)
		}
	}
}

// left is an operation on two numbers in e.
func left(e api.Expr) string {
	if len(e.Args) != 2 {
		return ""
	}
	if e.Args[0].Kind == api.ExNum && e.Args[1].Kind == api.ExNum {
		return text(e)
	}
	return left(e.Args[0]) + left(e.Args[1])
}

// TestNamesChangeWithPut: the name goes, the new ones come.
func TestNamesChangeWithPut(t *testing.T) {
	for seed := range 500 {
		e := mixed(seed%17, rule(seed))
		for _, n := range []string{"x", "y", ""} {
			gone := expr.Put(e, n, num(1))
			rest := slices.DeleteFunc(expr.Names(e), func(s string) bool { return s == n })
			checkNames(t, gone, rest)
			checkPut(t, e, n, name(n), text(e))
			checkPut(t, gone, n, name("new"), text(gone))
			if slices.Contains(expr.Names(e), n) != slices.Contains(expr.Names(expr.Put(e, n, name("new"))), "new") {
				t.Fatalf("new does not stand where %q stood in %s", n, text(e))
			}
		}
	}
}

// nested goes so many levels down, on the left or on the right, and has e at the bottom.
func nested(kind, levels int, onLeft bool, e api.Expr) api.Expr {
	for i := range levels {
		if onLeft {
			e = op(kind, e, num(i))
		} else {
			e = op(kind, num(i), e)
		}
	}
	return e
}

func TestDeep(t *testing.T) {
	const levels = 1 << 16
	const sum = levels * (levels - 1) / 2
	for _, onLeft := range []bool{true, false} {
		e := nested(api.ExAdd, levels, onLeft, name("x"))
		checkEval(t, e, []api.Bind{{Name: "x", Value: 5}}, sum+5)
		checkNames(t, e, []string{"x"})
		if got := expr.Fold(e); text(got) != text(e) {
			t.Error("Fold of a deep expression with a name changes it")
		}
		put := expr.Put(e, "x", num(6))
		if text(put) != text(nested(api.ExAdd, levels, onLeft, num(6))) {
			t.Error("Put into a deep expression is wrong")
		}
		if got := expr.Fold(put); got.Kind != api.ExNum || got.N != sum+6 || !proper(got) {
			t.Errorf("Fold of a deep expression of numbers is wrong: %d and %d", got.Kind, got.N)
		}
		under := expr.Put(name("x"), "x", e)
		if text(under) != text(e) {
			t.Error("Put of a deep expression is wrong")
		}
	}
}

// balanced has the leaves from from to below to, in order.
func balanced(from, to int, leaf func(i int) api.Expr) api.Expr {
	if to-from == 1 {
		return leaf(from)
	}
	mid := (from + to) / 2
	return add(balanced(from, mid, leaf), balanced(mid, to, leaf))
}

func many(i int) string { return "n" + strconv.Itoa(i) }

// TestManyNames: as many in the expression as in the environment, which has each of them twice.
func TestManyNames(t *testing.T) {
	const n = 150000
	e := balanced(0, n, func(i int) api.Expr { return name(many(i)) })
	var env []api.Bind
	for i := range n {
		env = append(env, api.Bind{Name: many(i), Value: 77})
	}
	for i := range n {
		env = append(env, api.Bind{Name: many(n - 1 - i), Value: n - 1 - i})
	}
	checkEvalOfMany(t, e, env, n*(n-1)/2)
	checkEvalOfMany(t, e, env[:n], 77*n)
	checkEvalOfMany(t, e, env[n:], n*(n-1)/2)
	got := expr.Names(e)
	if len(got) != n {
		t.Fatalf("got %d names of %d", len(got), n)
	}
	for i, s := range got {
		if s != many(i) {
			t.Fatalf("name %d is %q", i, s)
		}
	}
	unbound := balanced(0, n, func(i int) api.Expr { return name("m" + many(i)) })
	checkEvalOfMany(t, unbound, env, 0)
}

func checkEvalOfMany(t *testing.T, e api.Expr, env []api.Bind, want int) {
	t.Helper()
	if got := expr.Eval(e, env); got != want {
		t.Errorf("with %d binds: got %d, want %d", len(env), got, want)
	}
}

// TestManyPlaces: one name in many places.
func TestManyPlaces(t *testing.T) {
	const n = 50000
	e := balanced(0, n, func(i int) api.Expr { return name([]string{"x", "y"}[i%2]) })
	got := expr.Put(e, "x", add(name("x"), num(1)))
	checkEvalOfMany(t, got, []api.Bind{{Name: "x", Value: 2}, {Name: "y", Value: 10}}, n/2*3+n/2*10)
	checkNames(t, got, []string{"x", "y"})
	if folded := expr.Fold(expr.Put(expr.Put(e, "x", num(1)), "y", num(2))); folded.Kind != api.ExNum || folded.N != n/2*3 {
		t.Errorf("got kind %d, %d", folded.Kind, folded.N)
	}
}

func TestBinds(t *testing.T) {
	for _, c := range []struct {
		env  []api.Bind
		n    string
		want int
	}{
		{nil, "x", 0},
		{[]api.Bind{}, "", 0},
		{[]api.Bind{{Name: "x", Value: 1}, {Name: "x", Value: 2}, {Name: "x", Value: 3}}, "x", 3},
		{[]api.Bind{{Name: "x", Value: 1}, {Name: "x", Value: 0}}, "x", 0},
		{[]api.Bind{{Name: "x", Value: 1}, {Name: "y", Value: 2}}, "x", 1},
		{[]api.Bind{{Name: "x", Value: 1}, {Name: "y", Value: 2}}, "y", 2},
		{[]api.Bind{{Name: "", Value: 1}, {Name: "y", Value: 2}}, "", 1},
		{[]api.Bind{{Name: "", Value: 1}, {Name: "y", Value: 2}}, "z", 0},
		{[]api.Bind{{Name: "x ", Value: 1}, {Name: "X", Value: 2}, {Name: "xx", Value: 3}}, "x", 0},
		{[]api.Bind{{Name: "é", Value: 1}, {Name: "e\u0301", Value: 2}}, "é", 1},
		{[]api.Bind{{Name: "x", Value: math.MinInt}}, "x", math.MinInt},
	} {
		checkEval(t, name(c.n), c.env, c.want)
	}
}

// TestOneEnvironment: each name has its value, in whatever order they are asked for, and again.
func TestOneEnvironment(t *testing.T) {
	env := []api.Bind{{Name: "a", Value: 1}, {Name: "b", Value: 20}, {Name: "a", Value: 300}, {Name: "c", Value: 4000}, {Name: "b", Value: 50000}}
	for _, order := range []string{"abc", "acb", "bac", "bca", "cab", "cba", "aabbcc", "abcabc", "cbacba", "czbzaz", "zabc", "bab", "cac"} {
		e := num(0)
		for _, r := range order {
			e = add(mul(e, num(1<<20)), name(string(r)))
		}
		checkEval(t, e, env, value(e, env))
	}
}

// deepCopy shares nothing with e.
func deepCopy(e api.Expr) api.Expr {
	whole := e.Args[:cap(e.Args)]
	if e.Args != nil {
		l := make([]api.Expr, len(whole))
		for i := range whole {
			l[i] = deepCopy(whole[i])
		}
		e.Args = l[:len(e.Args)]
	}
	return e
}

// spared has parts behind the last Arg of every operation.
func spared(e api.Expr) api.Expr {
	if e.Args != nil {
		l := make([]api.Expr, 0, len(e.Args)+2)
		for _, a := range e.Args {
			l = append(l, spared(a))
		}
		_ = append(l, name("behind"), num(88))
		e.Args = l
	}
	return e
}

func TestArgumentsStay(t *testing.T) {
	for seed := range 200 {
		e, by := spared(mixed(seed%13, rule(seed))), spared(mixed(seed%5, rule(seed+1)))
		env := append(slices.Clone(envs()[seed%len(envs())]), api.Bind{Name: "behind", Value: 1})
		keptE, keptBy, keptEnv := deepCopy(e), deepCopy(by), slices.Clone(env)
		expr.Eval(e, env[:len(env)-1])
		expr.Names(e)
		expr.Put(e, "x", by)
		expr.Put(e, "behind", by)
		expr.Fold(e)
		if !reflect.DeepEqual(whole(e), whole(keptE)) || !reflect.DeepEqual(whole(by), whole(keptBy)) || !slices.Equal(env, keptEnv) {
			t.Fatalf("arguments were changed: %s, %s, %v", text(e), text(by), env)
		}
	}
}

// whole is e with what lies behind the Args of its parts.
func whole(e api.Expr) api.Expr {
	e = deepCopy(e)
	lengthen(&e)
	return e
}

func lengthen(e *api.Expr) {
	e.Args = e.Args[:cap(e.Args)]
	for i := range e.Args {
		lengthen(&e.Args[i])
	}
}

// TestSpareCapacityIsNotRead: what lies behind Args and binds changes no answer.
func TestSpareCapacityIsNotRead(t *testing.T) {
	args := []api.Expr{name("x"), name("y"), num(3)}
	for _, kind := range kinds() {
		for length := range 2 {
			e := api.Expr{Kind: kind, Args: args[:length]}
			checkEval(t, add(e, num(1)), []api.Bind{{Name: "x", Value: 5}, {Name: "y", Value: 5}}, 1)
			checkNames(t, e, nil)
			checkPut(t, e, "x", num(4), "0")
			checkFold(t, e, "0")
		}
	}
	env := []api.Bind{{Name: "x", Value: 1}, {Name: "y", Value: 2}, {Name: "x", Value: 3}}
	checkEval(t, name("x"), env[:0], 0)
	checkEval(t, name("x"), env[:2], 1)
	checkEval(t, name("y"), env[:1], 0)
	for seed := range 100 {
		e := mixed(seed%13, rule(seed))
		s := spared(e)
		checkNames(t, s, expr.Names(e))
		checkFold(t, s, text(expr.Fold(e)))
		checkPut(t, s, "x", s, put(e, "x", e))
	}
}

// lists are where the Args of e and of its parts begin.
func lists(e api.Expr) []*api.Expr {
	var l []*api.Expr
	if cap(e.Args) > 0 {
		l = append(l, &e.Args[:1][0])
	}
	for _, a := range e.Args[:cap(e.Args)] {
		l = append(l, lists(a)...)
	}
	return l
}

// TestResultsAreNew: they share no memory with an argument, and no two lists in one of them share any.
func TestResultsAreNew(t *testing.T) {
	x := name("x")
	part := []api.Expr{x, num(1)}
	twice := add(api.Expr{Kind: api.ExAdd, Args: part}, api.Expr{Kind: api.ExMul, Args: part})
	by := sub(add(x, name("y")), num(2))
	for _, e := range []api.Expr{x, twice, add(twice, twice), add(x, x), mul(add(num(1), num(2)), add(x, add(x, x)))} {
		for _, result := range []api.Expr{expr.Put(e, "x", by), expr.Put(e, "none", by), expr.Put(e, "x", e), expr.Fold(e)} {
			known := map[*api.Expr]int{}
			for _, l := range append(lists(e), lists(by)...) {
				known[l]++
			}
			for _, l := range lists(result) {
				if known[l] > 0 {
					t.Fatalf("of %s the result %s shares memory", text(e), text(result))
				}
				known[l]++
			}
		}
	}
}

// TestArgumentsMayChangeAfterwards: no result hangs on them once the call has returned, nor they on a result.
func TestArgumentsMayChangeAfterwards(t *testing.T) {
	for seed := range 100 {
		e, by := mixed(seed%13, rule(seed)), mixed(seed%5, rule(seed+1))
		put, fold := expr.Put(e, "x", by), expr.Fold(e)
		names := expr.Names(e)
		wantPut, wantFold, wantNames := text(put), text(fold), slices.Clone(names)
		spoil(deepest(e))
		spoil(deepest(by))
		if text(put) != wantPut || text(fold) != wantFold || !slices.Equal(names, wantNames) {
			t.Fatalf("results changed with the arguments: %s, %s, %q", text(put), text(fold), names)
		}
	}
	e := add(name("x"), mul(name("y"), num(2)))
	first, second := expr.Names(e), expr.Names(e)
	clear(first[:cap(first)])
	if !slices.Equal(second, []string{"x", "y"}) {
		t.Errorf("a result changed with another one: %q", second)
	}
	spoil(deepest(expr.Put(e, "x", e)))
	spoil(deepest(expr.Fold(e)))
	if text(e) != "(3 <x> (5 <y> 2))" {
		t.Errorf("an argument changed with a result: %s", text(e))
	}
}

// deepest are all lists of Args in e, the inner ones first.
func deepest(e api.Expr) [][]api.Expr {
	var l [][]api.Expr
	for _, a := range e.Args {
		l = append(l, deepest(a)...)
	}
	return append(l, e.Args)
}

func spoil(lists [][]api.Expr) {
	for _, l := range lists {
		for i := range l {
			l[i] = api.Expr{Kind: api.ExName, Name: "spoilt"}
		}
	}
}

// TestNothingIsKept: what one call found is not there in the next.
func TestNothingIsKept(t *testing.T) {
	for range 3 {
		checkEval(t, name("x"), []api.Bind{{Name: "x", Value: 5}}, 5)
		checkEval(t, name("x"), nil, 0)
		checkNames(t, add(name("y"), name("x")), []string{"y", "x"})
		checkNames(t, name("x"), []string{"x"})
	}
}
