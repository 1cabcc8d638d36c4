package lex_test

import (
	"math/big"
	"slices"
	"strconv"
	"strings"
	"testing"
	"unsafe"

	"forkwright/api"
	"forkwright/lex"
)

const (
	blanks  = " \n\t"
	digits  = "0123456789"
	letters = "abcdefghijklmnopqrstuvwxyz"
)

func operators() []string {
	return strings.Fields("{ } [ ] ( ) ; = == < + - * / %")
}

func num(at int, text string) api.Token  { return api.Token{Kind: api.TokNum, At: at, Text: text} }
func name(at int, text string) api.Token { return api.Token{Kind: api.TokName, At: at, Text: text} }
func sign(at int, text string) api.Token { return api.Token{Kind: api.TokSign, At: at, Text: text} }

// kind tells, by the chapter's first paragraph, what a text is as a whole: 0 if it is no token. Digits need not be valid.
func kind(text string) int {
	switch {
	case text == "":
		return 0
	case strings.Trim(text, digits) == "":
		return api.TokNum
	case strings.Contains(letters, text[:1]) && strings.Trim(text, letters+digits) == "":
		return api.TokName
	case slices.Contains(operators(), text):
		return api.TokSign
	}
	return 0
}

// valid reckons in numbers of any size.
func valid(number string) bool {
	n, ok := new(big.Int).SetString(number, 10)
	limit := new(big.Int).Lsh(big.NewInt(1), 63)
	return ok && n.Cmp(limit) < 0 && n.String() == number
}

// longest is how long the longest token at the beginning of s is, by trying every length.
func longest(s string) int {
	for n := len(s); n > 0; n-- {
		if kind(s[:n]) != 0 {
			return n
		}
	}
	return 0
}

// tokens are those of s by the chapter's own words, or where it is wrong.
func tokens(s string) ([]api.Token, int, api.Errno) {
	var l []api.Token
	for at := 0; at < len(s); {
		if strings.Contains(blanks, s[at:at+1]) {
			at++
			continue
		}
		n := longest(s[at:])
		text := s[at : at+n]
		if n == 0 || kind(text) == api.TokNum && !valid(text) {
			return nil, at, api.ErrForm
		}
		l = append(l, api.Token{Kind: kind(text), At: at, Text: text})
		at += n
	}
	return l, 0, api.OK
}

func short(s string) string {
	if len(s) > 80 {
		return strconv.Quote(s[:80]) + ".. of " + strconv.Itoa(len(s)) + " bytes"
	}
	return strconv.Quote(s)
}

func checkTokens(t *testing.T, s string, want []api.Token) {
	t.Helper()
	got, at, err := lex.Tokens(s)
	if !slices.Equal(got, want) || at != 0 || err != api.OK {
		t.Fatalf("Tokens(%s): got %v, %d, %d, want %v", short(s), got, at, err, want)
	}
}

func checkWrong(t *testing.T, s string, want int) {
	t.Helper()
	got, at, err := lex.Tokens(s)
	if len(got) > 0 || at != want || err != api.ErrForm {
		t.Fatalf("Tokens(%s): got %v, %d, %d, want an error at %d", short(s), got, at, err, want)
	}
}

func checkJoin(t *testing.T, l []api.Token, want string) {
	t.Helper()
	if got := lex.Join(l); got != want {
		t.Fatalf("Join(%v): got %s, want %s", l, short(got), short(want))
	}
}

// check holds Tokens against the chapter's own words.
func check(t *testing.T, s string) {
	t.Helper()
	want, at, err := tokens(s)
	if err == api.OK {
		checkTokens(t, s, want)
	} else {
		checkWrong(t, s, at)
	}
}

func TestTokens(t *testing.T) {
	for _, c := range []struct {
		s    string
		want []api.Token
	}{
		{"x1 ==12;", []api.Token{name(0, "x1"), sign(3, "=="), num(5, "12"), sign(7, ";")}}, // the chapter's example
		{"", nil},
		{" ", nil},
		{" \n\t\n ", nil},
		{"x", []api.Token{name(0, "x")}},
		{"0", []api.Token{num(0, "0")}},
		{"\t\n 7\n", []api.Token{num(3, "7")}},
		{"a1b2", []api.Token{name(0, "a1b2")}},
		{"a b", []api.Token{name(0, "a"), name(2, "b")}},
		{"a\nb\tc", []api.Token{name(0, "a"), name(2, "b"), name(4, "c")}},
		{"1a2", []api.Token{num(0, "1"), name(1, "a2")}},
		{"0a", []api.Token{num(0, "0"), name(1, "a")}},
		{"a00", []api.Token{name(0, "a00")}},
		{"a 0 0", []api.Token{name(0, "a"), num(2, "0"), num(4, "0")}},
		{"az09", []api.Token{name(0, "az09")}},
		{"za90", []api.Token{name(0, "za90")}},
		{"=", []api.Token{sign(0, "=")}},
		{"==", []api.Token{sign(0, "==")}},
		{"===", []api.Token{sign(0, "=="), sign(2, "=")}},
		{"====", []api.Token{sign(0, "=="), sign(2, "==")}},
		{"= =", []api.Token{sign(0, "="), sign(2, "=")}},
		{"=\n==", []api.Token{sign(0, "="), sign(2, "==")}},
		{"<=", []api.Token{sign(0, "<"), sign(1, "=")}},
		{"<==", []api.Token{sign(0, "<"), sign(1, "==")}},
		{"<<", []api.Token{sign(0, "<"), sign(1, "<")}},
		{"{{", []api.Token{sign(0, "{"), sign(1, "{")}},
		{"-5", []api.Token{sign(0, "-"), num(1, "5")}},
		{"+0", []api.Token{sign(0, "+"), num(1, "0")}},
		{"//", []api.Token{sign(0, "/"), sign(1, "/")}},
		{"let{}[", []api.Token{name(0, "let"), sign(3, "{"), sign(4, "}"), sign(5, "[")}},
		{"](a);", []api.Token{sign(0, "]"), sign(1, "("), name(2, "a"), sign(3, ")"), sign(4, ";")}},
		{"1*2/3%4+5-6<7", []api.Token{num(0, "1"), sign(1, "*"), num(2, "2"), sign(3, "/"), num(4, "3"), sign(5, "%"), num(6, "4"), sign(7, "+"), num(8, "5"), sign(9, "-"), num(10, "6"), sign(11, "<"), num(12, "7")}},
		{"store [ x ] = y ;", []api.Token{name(0, "store"), sign(6, "["), name(8, "x"), sign(10, "]"), sign(12, "="), name(14, "y"), sign(16, ";")}},
	} {
		checkTokens(t, c.s, c.want)
		check(t, c.s)
	}
}

func TestWrong(t *testing.T) {
	for _, c := range []struct {
		s  string
		at int
	}{
		{"!", 0},
		{"5 !", 2},
		{"! 01", 0},
		{"01 !", 0},
		{"x 01", 2},
		{"x01 01", 4},
		{"a_b", 1},
		{"_", 0},
		{"A", 0},
		{"aB", 1},
		{"a1Z", 2},
		{"1A", 1},
		{"a.b", 1},
		{"1.5", 1},
		{"\r", 0},
		{"a\r\nb", 1},
		{"\v", 0},
		{"\f", 0},
		{"\x00", 0},
		{"x\x00", 1},
		{"é", 0},
		{"aé", 1},
		{"\u00a0", 0},
		{"x\u2003y", 1},
		{"١", 0},
		{"\ufeffx", 0},
		{"\xff", 0},
		{"x = \xc3;", 4},
		{"a > b", 2},
		{"a != b", 2},
		{"a, b", 1},
		{"\"a\"", 0},
		{"a & b | c", 2},
		{"==!", 2},
		{"let x = 1 # one", 10},
		{"  \n\t01", 4},
		{"  \n\tA", 4},
	} {
		checkWrong(t, c.s, c.at)
		check(t, c.s)
	}
}

func TestNumbers(t *testing.T) {
	for _, s := range []string{"0", "1", "9", "10", "100", "90071992547409930", "999999999999999999", "1000000000000000000", "2147483648", "4294967296", "8999999999999999999", "9199999999999999999", "9223372036854775799", "9223372036854775806", "9223372036854775807"} {
		checkTokens(t, s, []api.Token{num(0, s)})
		checkTokens(t, " "+s+"a"+s+";"+s, []api.Token{num(1, s), name(1+len(s), "a"+s), sign(2+2*len(s), ";"), num(3+2*len(s), s)})
	}
	for _, s := range []string{"00", "01", "000", "007", "010", "0000000000000000000", "00000000000000000001", "09223372036854775807", "9223372036854775808", "9223372036854775810", "9223372036854775900", "9300000000000000000", "9999999999999999999", "10000000000000000000", "18446744073709551615", "18446744073709551616", "18446744073709551617", "36893488147419103239", "92233720368547758070", "100000000000000000000", "340282366920938463463374607431768211463"} {
		checkWrong(t, s, 0)
		checkWrong(t, " "+s, 1)
		checkWrong(t, "x="+s+"!", 2)
		checkWrong(t, "1 "+s, 2)
		checkTokens(t, "n"+s, []api.Token{name(0, "n"+s)})
	}
}

// TestEveryNumber with up to four digits, and those around every power of ten and of two.
func TestEveryNumber(t *testing.T) {
	for n := range 10000 {
		for width := 1; width <= 4; width++ {
			s := strconv.Itoa(n)
			check(t, strings.Repeat("0", max(0, width-len(s)))+s)
		}
	}
	for _, base := range []int64{2, 10} {
		power := big.NewInt(1)
		for range 100 {
			power.Mul(power, big.NewInt(base))
			for near := int64(-2); near <= 2; near++ {
				check(t, new(big.Int).Add(power, big.NewInt(near)).String())
			}
		}
	}
}

// TestEveryPairOfBytes: alone and between others.
func TestEveryPairOfBytes(t *testing.T) {
	for a := range 256 {
		check(t, string([]byte{byte(a)}))
		for b := range 256 {
			check(t, string([]byte{byte(a), byte(b)}))
			check(t, string([]byte{'x', byte(a), '1', byte(b), '='}))
		}
	}
}

// TestEverySmallText of up to five bytes, of those that meet each other in some way.
func TestEverySmallText(t *testing.T) {
	const alphabet = "019az=<; !"
	texts := []string{""}
	for range 5 {
		var longer []string
		for _, s := range texts {
			for i := range len(alphabet) {
				longer = append(longer, s+alphabet[i:i+1])
				check(t, s+alphabet[i:i+1])
			}
		}
		texts = longer
	}
}

func rule(seed int) func(below int) int {
	x := uint32(seed)*2654435761 + 12345
	return func(below int) int {
		x = x*1664525 + 1013904223
		return int(x>>10) % below
	}
}

// pieces are of all sorts, mostly right ones.
func pieces() []string {
	l := append(operators(), operators()...)
	l = append(l, strings.Fields("x y1 a0b9 let load store async finish if else for to zz 0 1 12 900 9223372036854775807 3 4")...)
	l = append(l, " ", " ", "\n", "\t", " \n\t ", "", " ", " ")
	return append(l, "01", "9223372036854775808", "A", "é")
}

// mixed is a text of so many pieces, chosen by a fixed rule, without wrong ones if right.
func mixed(count int, right bool, next func(below int) int) string {
	l := pieces()
	if right {
		l = l[:len(l)-4]
	}
	var b strings.Builder
	for range count {
		piece := l[next(len(l))]
		// A number behind another one would run together with it.
		if right && kind(piece) == api.TokNum {
			piece = " " + piece + " "
		}
		b.WriteString(piece)
	}
	return b.String()
}

func TestMixed(t *testing.T) {
	for seed := range 3000 {
		check(t, mixed(seed%40, seed%3 > 0, rule(seed)))
	}
}

// TestWhatTokensAre: parts of the text in their order, with nothing but blanks between them.
func TestWhatTokensAre(t *testing.T) {
	for seed := range 500 {
		s := mixed(seed%60, true, rule(seed))
		l, _, err := lex.Tokens(s)
		if err != api.OK {
			t.Fatalf("Tokens(%s): error %d", short(s), err)
		}
		end := 0
		for _, token := range append(l, api.Token{At: len(s)}) {
			if token.At < end || strings.Trim(s[end:token.At], blanks) != "" || !strings.HasPrefix(s[token.At:], token.Text) || kind(token.Text) != token.Kind {
				t.Fatalf("Tokens(%s): %v is wrong behind %d", short(s), token, end)
			}
			end = token.At + len(token.Text)
		}
	}
}

// TestBlanksAreAlike: none of them makes a difference, nor how many there are in a row.
func TestBlanksAreAlike(t *testing.T) {
	for seed := range 300 {
		s := mixed(seed%30, true, rule(seed))
		want := bare(t, s)
		for _, blank := range []string{" ", "\n", "\t", "\t \n\n "} {
			other := blank + strings.NewReplacer(" ", blank, "\n", blank, "\t", blank).Replace(s) + blank
			if got := bare(t, other); !slices.Equal(got, want) {
				t.Fatalf("%s and %s have different tokens", short(s), short(other))
			}
		}
	}
}

// bare are the tokens of s without their offsets.
func bare(t *testing.T, s string) []api.Token {
	t.Helper()
	l, at, err := lex.Tokens(s)
	if err != api.OK {
		t.Fatalf("Tokens(%s): error %d at %d", short(s), err, at)
	}
	for i := range l {
		l[i].At = 0
	}
	return l
}

// TestWrongThingsStayWhereTheyAre: what is right ahead of them only moves them, and what follows changes nothing.
func TestWrongThingsStayWhereTheyAre(t *testing.T) {
	for seed := range 300 {
		ahead := mixed(seed%20, true, rule(seed)) + " "
		behind := " " + mixed(seed%9, false, rule(seed+1))
		for _, wrong := range []string{"!", "01", "9223372036854775808", "\r", "Q", "é", "\x00"} {
			checkWrong(t, ahead+wrong, len(ahead))
			checkWrong(t, ahead+wrong+behind, len(ahead))
		}
	}
}

func TestJoin(t *testing.T) {
	for _, c := range []struct {
		l    []api.Token
		want string
	}{
		{nil, ""},
		{[]api.Token{}, ""},
		{[]api.Token{name(0, "x1"), sign(3, "=="), num(5, "12"), sign(7, ";")}, "x1 == 12 ;"},
		{[]api.Token{name(0, "x")}, "x"},
		{[]api.Token{{}}, ""},
		{[]api.Token{{}, {}}, " "},
		{[]api.Token{{}, {}, {}}, "  "},
		{[]api.Token{{Text: "a"}, {}, {Text: "=="}}, "a  =="},
		{[]api.Token{{}, {Text: "a"}}, " a"},
		{[]api.Token{{Text: "a"}, {}}, "a "},
		{[]api.Token{sign(0, "="), sign(1, "=")}, "= ="},
		{[]api.Token{num(40, "2"), num(-7, "1"), num(40, "2")}, "2 1 2"},
		{[]api.Token{{Kind: 99, Text: "a b"}, {Kind: -1, At: 5, Text: " "}, {Text: "\n"}}, "a b   \n"},
		{[]api.Token{{Text: "é"}, {Text: "\xff\x00"}, {Text: "01"}}, "é \xff\x00 01"},
		{[]api.Token{{Kind: api.TokNum, Text: "x"}, {Kind: api.TokName, Text: "+"}}, "x +"},
	} {
		checkJoin(t, c.l, c.want)
	}
}

// TestJoinAndBack: single spaces stand for all blanks, and what is joined has the same tokens again.
func TestJoinAndBack(t *testing.T) {
	for seed := range 500 {
		s := mixed(seed%50, true, rule(seed))
		l, _, _ := lex.Tokens(s)
		joined := lex.Join(l)
		var texts []string
		for _, token := range l {
			texts = append(texts, token.Text)
		}
		checkJoin(t, l, strings.Join(texts, " "))
		at := 0
		for i := range l {
			l[i].At = at
			at += len(l[i].Text) + 1
		}
		checkTokens(t, joined, l)
		checkJoin(t, l, joined)
	}
}

// TestLong: of one sort and of many.
func TestLong(t *testing.T) {
	const n = 1 << 18
	checkTokens(t, strings.Repeat(" \n", n), nil)
	long := "a" + strings.Repeat("0z", n)
	checkTokens(t, long, []api.Token{name(0, long)})
	checkTokens(t, long+"=0", []api.Token{name(0, long), sign(len(long), "="), num(len(long)+1, "0")})
	checkWrong(t, strings.Repeat("9", n), 0)
	checkWrong(t, strings.Repeat("0", n), 0)
	checkWrong(t, "1"+strings.Repeat("0", n), 0)
	checkWrong(t, strings.Repeat("1a ;", n)+"01", 4*n)
	l, at, err := lex.Tokens(strings.Repeat("12ab ;", n))
	if len(l) != 3*n || at != 0 || err != api.OK {
		t.Fatalf("got %d tokens, %d, %d", len(l), at, err)
	}
	for i, token := range l {
		want := []api.Token{num(i/3*6, "12"), name(i/3*6+2, "ab"), sign(i/3*6+5, ";")}[i%3]
		if token != want {
			t.Fatalf("token %d: got %v, want %v", i, token, want)
		}
	}
	if got := lex.Join(l); got != strings.Repeat("12 ab ; ", n)[:8*n-1] {
		t.Error("a long list is joined wrongly")
	}
}

// TestArgumentsStay: nor does what lies behind a list count.
func TestArgumentsStay(t *testing.T) {
	l := []api.Token{name(0, "a"), num(2, "1"), sign(3, "+"), name(4, "behind")}
	kept := slices.Clone(l)
	for n, want := range []string{"", "a", "a 1", "a 1 +", "a 1 + behind"} {
		checkJoin(t, l[:n], want)
		if !slices.Equal(l, kept) {
			t.Fatalf("arguments were changed: %v", l)
		}
	}
}

// inside holds if the memory of part lies in that of whole.
func inside(part, whole string) bool {
	if part == "" || whole == "" {
		return false
	}
	from := uintptr(unsafe.Pointer(unsafe.StringData(whole)))
	at := uintptr(unsafe.Pointer(unsafe.StringData(part)))
	return from <= at && at < from+uintptr(len(whole))
}

// TestResultsAreNew: they share no memory with an argument, nor one list with another.
func TestResultsAreNew(t *testing.T) {
	for _, s := range []string{"x1 ==12;", "x", "let abc = 12345 ;", "==", " 7 "} {
		first, _, _ := lex.Tokens(s)
		second, _, _ := lex.Tokens(s)
		want := slices.Clone(second)
		for _, token := range first {
			if inside(token.Text, s) {
				t.Errorf("%q shares memory with %q", token.Text, s)
			}
		}
		if joined := lex.Join(second); inside(joined, second[0].Text) || inside(second[0].Text, joined) {
			t.Errorf("%q shares memory with a token", joined)
		}
		clear(first[:cap(first)])
		if !slices.Equal(second, want) {
			t.Errorf("a result changed with another one: %v", second)
		}
	}
}

// TestNothingIsKept: what one call met is not there in the next.
func TestNothingIsKept(t *testing.T) {
	for range 3 {
		checkTokens(t, "a 1", []api.Token{name(0, "a"), num(2, "1")})
		checkWrong(t, "a !", 2)
		checkTokens(t, "=", []api.Token{sign(0, "=")})
		checkTokens(t, "", nil)
		checkJoin(t, []api.Token{{Text: "a"}, {Text: "b"}}, "a b")
		checkJoin(t, nil, "")
	}
}
