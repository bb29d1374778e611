package token_test

import (
	"math"
	"slices"
	"strings"
	"testing"
	"unsafe"

	"weaver/api"
	"weaver/token"
)

// places are all sorts of At that Join does not ask for.
var places = []int{0, 1, -1, 7, api.MaxBytes, math.MinInt, math.MaxInt}

func wantJoin(t *testing.T, want string, l ...api.Token) {
	t.Helper()
	if s, e := token.Join(l); s != want || e != api.OK {
		t.Errorf("Join(%.200v) = %.80q, %d, want %.80q", l, s, e, want)
	}
}

func wantNoJoin(t *testing.T, code api.Errno, l ...api.Token) {
	t.Helper()
	if s, e := token.Join(l); s != "" || e != code {
		t.Errorf("Join(%.200v) = %.80q, %d, want none, %d", l, s, e, code)
	}
}

// wrongTokens could not come out of Tokens, wherever they stand: each kind with texts that are none
// of its own, and with a text or a number beside what it has.
func wrongTokens() []api.Token {
	long := strings.Repeat("a", api.MaxName+1)
	huge := strings.Repeat("a", api.MaxText+1)
	var l []api.Token
	for _, kind := range []int{5, 6, -1, 256, 257, 258, 260, 1 << 32, 1<<32 + 1, math.MinInt, math.MaxInt} {
		l = append(l, api.Token{Kind: kind}, api.Token{Kind: kind, S: "a"}, api.Token{Kind: kind, N: 1}, api.Token{Kind: kind, S: "+"})
	}
	for _, s := range []string{"", "A", "aB", "0", "0a", "7", " ", " a", "a ", "a b", "a\n", "a.b", "a+", "+", "'a'", "a'", "é", "a\x00", "a\xff", long, huge} {
		l = append(l, word(s, 0))
	}
	for _, s := range []string{"", "!", ">", ">=", "=<", "=!", "===", "<==", "<<", "((", "( ", " (", "+1", "a", "1", "'", "''", ",", "\x00", "\xff", " ", "\n", long, huge} {
		l = append(l, sign(s, 0))
	}
	for _, s := range []string{"'", "\n", "a'b", "a\nb", "'a'", "a'", "\na", huge, huge + "'", strings.Repeat("\n", 1<<16)} {
		l = append(l, text(s, 0))
	}
	for _, n := range []int64{-1, -2, -7, math.MinInt32, -1 << 62, math.MinInt64 + 1, math.MinInt64} {
		l = append(l, num(n, 0))
		l = append(l, api.Token{Kind: api.TWord, S: "a", N: n}, api.Token{Kind: api.TSign, S: "<=", N: n}, api.Token{Kind: api.TText, S: "x", N: n})
	}
	for _, n := range []int64{1, 7, 1 << 32, math.MaxInt64} {
		l = append(l, api.Token{Kind: api.TWord, S: "a", N: n}, api.Token{Kind: api.TSign, S: "+", N: n}, api.Token{Kind: api.TText, N: n}, api.Token{Kind: api.TEnd, N: n})
	}
	for _, s := range []string{"0", "1", "a", "-", " ", huge} {
		l = append(l, api.Token{Kind: api.TNum, S: s}, api.Token{Kind: api.TNum, S: s, N: 1}, api.Token{Kind: api.TEnd, S: s})
	}
	return append(l, api.Token{Kind: api.TEnd, N: -1}, api.Token{Kind: api.TEnd, S: "+"})
}

// The chapter's example, with the end and without.
func TestJoinExample(t *testing.T) {
	wantJoin(t, "n0 == 'x y'", word("n0", 0), sign("==", 3), text("x y", 6), end(11))
	wantJoin(t, "n0 == 'x y'", word("n0", 0), sign("==", 3), text("x y", 6))
}

// 10.2, R3: nothing is written as nothing, and so is an end.
func TestJoinOfNothing(t *testing.T) {
	wantJoin(t, "")
	wantJoin(t, "", []api.Token{}...)
	for _, at := range places {
		wantJoin(t, "", end(at))
		wantJoin(t, "a", word("a", 3), end(at))
	}
}

// 10.2: each kind, whatever its place.
func TestJoin(t *testing.T) {
	for _, at := range places {
		wantJoin(t, "a", word("a", at))
		wantJoin(t, "a1 b", word("a1", at), word("b", at))
		wantJoin(t, "0", num(0, at))
		wantJoin(t, "9223372036854775807 10", num(math.MaxInt64, at), num(10, at))
		wantJoin(t, "''", text("", at))
		wantJoin(t, "'' ' ' ''", text("", at), text(" ", at), text("", at))
		wantJoin(t, "'\t\x00\xff\\'", text("\t\x00\xff\\", at))
		wantJoin(t, "- 7", sign("-", at), num(7, at))
		wantJoin(t, "= =", sign("=", at), sign("=", at))
		wantJoin(t, strings.Join(signs, " "), each(signs, func(s string) api.Token { return sign(s, at) })...)
	}
	name, long := strings.Repeat("z", api.MaxName), strings.Repeat("\"", api.MaxText)
	wantJoin(t, name+" '"+long+"'", word(name, 0), text(long, 0), end(0))
}

func each(l []string, f func(string) api.Token) []api.Token {
	var out []api.Token
	for _, s := range l {
		out = append(out, f(s))
	}
	return out
}

// 10.2: a token that could not come out of Tokens, by itself, among others, ahead of an end.
func TestWrongTokens(t *testing.T) {
	for _, x := range wrongTokens() {
		for _, x.At = range places {
			wantNoJoin(t, api.ErrToken, x)
		}
		wantNoJoin(t, api.ErrToken, x, end(0))
		wantNoJoin(t, api.ErrToken, word("a", 0), x)
		wantNoJoin(t, api.ErrToken, x, word("a", 0))
		wantNoJoin(t, api.ErrToken, word("a", 0), x, num(1, 0), end(0))
		wantNoJoin(t, api.ErrToken, x, x)
	}
}

// 10.2: an end stands last alone.
func TestEndAhead(t *testing.T) {
	wantNoJoin(t, api.ErrToken, end(0), end(0))
	wantNoJoin(t, api.ErrToken, end(0), word("a", 0))
	wantNoJoin(t, api.ErrToken, end(0), word("a", 0), end(1))
	wantNoJoin(t, api.ErrToken, word("a", 0), end(1), end(1))
	wantNoJoin(t, api.ErrToken, word("a", 0), end(1), word("a", 0))
}

// 10.2: at most api.MaxItems tokens, and an end; more are refused ahead of wrong ones.
func TestJoinMany(t *testing.T) {
	most := slices.Repeat([]api.Token{sign("<=", 0)}, api.MaxItems)
	want := strings.Repeat("<= ", api.MaxItems-1) + "<="
	wantJoin(t, want, most...)
	wantJoin(t, want, append(slices.Clone(most), end(0))...)
	wantJoin(t, want[3:], append(slices.Clone(most[1:]), end(0))...)
	wantNoJoin(t, api.ErrLong, append(slices.Clone(most), word("a", 0))...)
	wantNoJoin(t, api.ErrLong, append(slices.Clone(most), word("a", 0), end(0))...)
	wantNoJoin(t, api.ErrLong, append(slices.Clone(most), end(0), end(0))...)
	wantNoJoin(t, api.ErrLong, append([]api.Token{end(0)}, most...)...)
	wantNoJoin(t, api.ErrLong, slices.Repeat(most, 2)...)
	wantNoJoin(t, api.ErrLong, make([]api.Token, api.MaxItems+2)...)
	wantNoJoin(t, api.ErrToken, make([]api.Token, api.MaxItems+1)...)
	for _, x := range wrongTokens() {
		wrong := slices.Clone(most)
		wrong[api.MaxItems/2] = x
		wantNoJoin(t, api.ErrToken, wrong...)
		wantNoJoin(t, api.ErrToken, append(wrong, end(0))...)
		wantNoJoin(t, api.ErrLong, append(wrong, word("a", 0))...)
	}
}

// 10.2: at most api.MaxBytes bytes; wrong tokens are refused ahead of more.
func TestJoinLong(t *testing.T) {
	full := text(strings.Repeat("x", api.MaxText), 0)
	bytesOf := func(l []api.Token) int {
		n := len(l) - 1
		for _, x := range l {
			n += len(x.S) + 2
		}
		return n
	}
	l := slices.Repeat([]api.Token{full}, api.MaxBytes/(api.MaxText+3))
	left := api.MaxBytes - bytesOf(l) - 1
	l = append(l, text(full.S[:left-2], 0))
	if bytesOf(l) != api.MaxBytes {
		t.Fatal(bytesOf(l))
	}
	var want strings.Builder
	for i, x := range l {
		if i > 0 {
			want.WriteString(" ")
		}
		want.WriteString("'" + x.S + "'")
	}
	wantJoin(t, want.String(), l...)
	wantJoin(t, want.String(), append(slices.Clone(l), end(0))...)
	longer := append(slices.Clone(l[:len(l)-1]), text(full.S[:left-1], 0))
	wantNoJoin(t, api.ErrLong, longer...)
	wantNoJoin(t, api.ErrLong, append(slices.Clone(longer), end(0))...)
	wantNoJoin(t, api.ErrLong, append(slices.Clone(l), word("a", 0))...)
	wantNoJoin(t, api.ErrToken, append(slices.Clone(longer), word("A", 0))...)
	wantNoJoin(t, api.ErrToken, append(slices.Clone(longer), api.Token{Kind: api.TEnd, N: 1})...)
	wantNoJoin(t, api.ErrLong, slices.Repeat([]api.Token{full}, api.MaxItems)...)
	wantNoJoin(t, api.ErrToken, append(slices.Repeat([]api.Token{full}, api.MaxItems-1), num(-1, 0))...)
}

// R4: the tokens stay as they are, and what is written is not their memory, also of one token.
func TestJoinIsNew(t *testing.T) {
	for _, kind := range []int{api.TWord, api.TText} {
		room := []byte("zabcz")
		l := []api.Token{{Kind: kind, S: unsafe.String(&room[1], 3), At: 9}, {Kind: 9, S: "behind"}}
		was := slices.Clone(l)
		s, e := token.Join(l[:1])
		if e != api.OK || !slices.Equal(l, was) || string(room) != "zabcz" {
			t.Errorf("Join(%v) = %q, %d, and the tokens are %v now", was, s, e, l)
		}
		want := strings.Clone(s)
		copy(room, "#####")
		if s != want {
			t.Errorf("%q is %q now", want, s)
		}
	}
}
