package token_test

import (
	"math"
	"slices"
	"strings"
	"testing"
	"unsafe"

	"weaver/api"
	"weaver/token"
)

var signs = []string{"<=", "==", "!=", "(", ")", ":", ";", ".", "+", "-", "*", "<", "="}

const (
	blanks   = " \n"
	letters  = "abcdefghijklmnopqrstuvwxyz"
	digits   = "0123456789"
	oneSigns = "():;.+-*<="
)

func word(s string, at int) api.Token { return api.Token{Kind: api.TWord, S: s, At: at} }
func text(s string, at int) api.Token { return api.Token{Kind: api.TText, S: s, At: at} }
func sign(s string, at int) api.Token { return api.Token{Kind: api.TSign, S: s, At: at} }
func num(n int64, at int) api.Token   { return api.Token{Kind: api.TNum, N: n, At: at} }
func end(at int) api.Token            { return api.Token{Kind: api.TEnd, At: at} }

// wantTokens adds the end by itself.
func wantTokens(t *testing.T, s string, tokens ...api.Token) {
	t.Helper()
	want := append(slices.Clone(tokens), end(len(s)))
	if l, f := token.Tokens(s); !slices.Equal(l, want) || f != (api.Fault{}) {
		t.Errorf("Tokens(%.80q) = %.200v, %v, want %.200v", s, l, f, want)
	}
}

// wantFault: R5 as well, no token beside a fault.
func wantFault(t *testing.T, s string, at int, code api.Errno) {
	t.Helper()
	want := api.Fault{At: at, Code: code}
	if l, f := token.Tokens(s); len(l) != 0 || f != want {
		t.Errorf("Tokens(%.80q) = %d tokens, %v, want %v", s, len(l), f, want)
	}
}

// The chapter's examples.
func TestTokensExample(t *testing.T) {
	wantTokens(t, "a1<=-0", word("a1", 0), sign("<=", 2), sign("-", 4), num(0, 5))
	wantFault(t, "a1<=-07", 5, api.ErrToken)
	wantTokens(t, "n0 == 'x y'", word("n0", 0), sign("==", 3), text("x y", 6))
}

// 10.1: nothing but blanks is the end alone, at the length of the text.
func TestBlanks(t *testing.T) {
	for _, s := range []string{"", " ", "\n", "  ", "\n\n", " \n ", "\n \n", strings.Repeat(" \n", 1000)} {
		wantTokens(t, s)
		wantTokens(t, s+"a", word("a", len(s)))
		wantTokens(t, "a"+s, word("a", 0))
		wantFault(t, s+"A", len(s), api.ErrToken)
		wantFault(t, s+"'", len(s), api.ErrToken)
	}
}

// 10.1: each byte by itself, ahead of a token and behind one.
func TestEachByte(t *testing.T) {
	for x := range 256 {
		s := string([]byte{byte(x)})
		switch {
		case strings.Contains(blanks, s):
			wantTokens(t, s)
			wantTokens(t, "a"+s+"b", word("a", 0), word("b", 2))
		case strings.Contains(letters, s):
			wantTokens(t, s, word(s, 0))
			wantTokens(t, "a"+s+"b", word("a"+s+"b", 0))
		case strings.Contains(digits, s):
			wantTokens(t, s, num(int64(x-'0'), 0))
			wantTokens(t, "a"+s+"b", word("a"+s+"b", 0))
		case strings.Contains(oneSigns, s):
			wantTokens(t, s, sign(s, 0))
			wantTokens(t, "a"+s+"b", word("a", 0), sign(s, 1), word("b", 2))
		default:
			wantFault(t, s, 0, api.ErrToken)
			wantFault(t, s+"a", 0, api.ErrToken)
			wantFault(t, " 1 "+s, 3, api.ErrToken)
			wantFault(t, "a"+s+"b", 1, api.ErrToken)
			wantFault(t, "1"+s+"b", 1, api.ErrToken)
			wantFault(t, "+"+s+"b", 1, api.ErrToken)
			wantFault(t, "'x'"+s+"b", 3, api.ErrToken)
		}
	}
}

// 10.1: letters of other tongues are none, nor are digits and blanks.
func TestOtherRunes(t *testing.T) {
	for _, s := range []string{"é", "ß", "ａ", "٣", "１", "\u00a0", "\u2028", "\ufeff", "≤", "’", "\xff\xfe", "\xe1\xa7"} {
		wantFault(t, s, 0, api.ErrToken)
		wantFault(t, "a"+s, 1, api.ErrToken)
		wantFault(t, "1"+s, 1, api.ErrToken)
		wantTokens(t, "'"+s+"'", text(s, 0))
	}
}

// 10.1: words begin with a letter, go on as long as letters and digits come, and have at most
// api.MaxName bytes.
func TestWords(t *testing.T) {
	for _, s := range []string{"a", "z", "a0", "z9", "n0", "and", "x1y2z3", "a0123456789", letters, "within"} {
		wantTokens(t, s, word(s, 0))
		wantTokens(t, " "+s+"(", word(s, 1), sign("(", len(s)+1))
	}
	for n := 1; n <= api.MaxName; n++ {
		s := strings.Repeat("a", n)
		wantTokens(t, s, word(s, 0))
		s = "q" + strings.Repeat("7", n-1)
		wantTokens(t, s+"\n", word(s, 0))
	}
	for _, n := range []int{api.MaxName + 1, api.MaxName + 2, 2 * api.MaxName, api.MaxName + 256, api.MaxText + 1, 1 << 16, api.MaxBytes - 2} {
		for _, x := range []string{"a", "z", "0", "9"} {
			s := "b" + strings.Repeat(x, n-1)
			wantFault(t, s, 0, api.ErrToken)
			wantFault(t, " +"+s, 2, api.ErrToken)
		}
	}
	wantFault(t, "aB", 1, api.ErrToken)
	wantFault(t, "a_b", 1, api.ErrToken)
	wantFault(t, strings.Repeat("a", api.MaxName)+"B", api.MaxName, api.ErrToken)
}

// 10.1: numbers go on as long as digits come, up to 2^63 - 1, without 0 ahead but 0.
func TestNumbers(t *testing.T) {
	for s, n := range map[string]int64{
		"0": 0, "1": 1, "9": 9, "10": 10, "100": 100, "2147483648": 1 << 31, "4294967296": 1 << 32,
		"999999999999999999": 999999999999999999, "1000000000000000000": 1000000000000000000,
		"9223372036854775806": math.MaxInt64 - 1, "9223372036854775807": math.MaxInt64,
	} {
		wantTokens(t, s, num(n, 0))
		wantTokens(t, " "+s+"a", num(n, 1), word("a", len(s)+1))
		wantTokens(t, "-"+s+" 5", sign("-", 0), num(n, 1), num(5, len(s)+2))
	}
	for _, s := range []string{
		"00", "01", "07", "007", "010", "00000000000000000000000", "09223372036854775807",
		"9223372036854775808", "9223372036854775809", "9223372036854775810", "9999999999999999999",
		"10000000000000000000", "18446744073709551615", "18446744073709551616", "18446744073709551617",
		"92233720368547758070", "36893488147419103232", strings.Repeat("9", 1000), "1" + strings.Repeat("0", api.MaxBytes-9),
	} {
		wantFault(t, s, 0, api.ErrToken)
		wantFault(t, "a "+s+" A", 2, api.ErrToken)
	}
	wantTokens(t, "1.5", num(1, 0), sign(".", 1), num(5, 2))
	wantTokens(t, "0x1f", num(0, 0), word("x1f", 1))
	wantTokens(t, "1e5", num(1, 0), word("e5", 1))
	wantFault(t, "1_000", 1, api.ErrToken)
}

// 10.1: texts stand between quotes, with at most api.MaxText bytes that are neither a quote nor a
// line feed.
func TestTexts(t *testing.T) {
	for _, s := range []string{"", " ", "x y", "  ", "\t\r\x00", "A_!\"#", "<=", "\\", "\\n", "é", "\xff\xfe\x80", "a b c"} {
		wantTokens(t, "'"+s+"'", text(s, 0))
		wantTokens(t, " '"+s+"'a", text(s, 1), word("a", len(s)+3))
		wantTokens(t, "'"+s+"''"+s+"'", text(s, 0), text(s, len(s)+2))
		wantFault(t, "'"+s, 0, api.ErrToken)
		wantFault(t, "a '"+s+"\n'", 2, api.ErrToken)
		wantFault(t, "'"+s+"' 'x' '"+s, len(s)+7, api.ErrToken)
	}
	for x := range 256 {
		s := "a" + string([]byte{byte(x)}) + "b"
		switch x {
		case '\'':
			wantFault(t, "'"+s+"'", 4, api.ErrToken)
		case '\n':
			wantFault(t, "'"+s+"'", 0, api.ErrToken)
		default:
			wantTokens(t, "'"+s+"'", text(s, 0))
		}
	}
}

// 10.1: how long a text may be, whether it ends or not.
func TestLongTexts(t *testing.T) {
	for _, n := range []int{api.MaxText - 1, api.MaxText} {
		for _, x := range []string{"x", " ", "\xff"} {
			s := strings.Repeat(x, n)
			wantTokens(t, "'"+s+"'", text(s, 0))
			wantFault(t, "'"+s, 0, api.ErrToken)
			wantFault(t, "'"+s+"\n'", 0, api.ErrToken)
		}
	}
	for _, n := range []int{api.MaxText + 1, api.MaxText + 2, 2 * api.MaxText, 1 << 16, api.MaxBytes - 5} {
		s := strings.Repeat("x", n)
		for _, behind := range []string{"", "'", "\n'"} {
			wantFault(t, "'"+s+behind, 0, api.ErrToken)
			wantFault(t, "1 '"+s+behind, 2, api.ErrToken)
		}
	}
}

// 10.1: of two signs the longest that stands there comes first.
func TestSigns(t *testing.T) {
	for _, s := range signs {
		wantTokens(t, s, sign(s, 0))
		wantTokens(t, "a"+s+"1", word("a", 0), sign(s, 1), num(1, len(s)+1))
		for _, u := range signs {
			wantTokens(t, s+" "+u, sign(s, 0), sign(u, len(s)+1))
		}
	}
	wantTokens(t, "===", sign("==", 0), sign("=", 2))
	wantTokens(t, "====", sign("==", 0), sign("==", 2))
	wantTokens(t, "<==", sign("<=", 0), sign("=", 2))
	wantTokens(t, "<===", sign("<=", 0), sign("==", 2))
	wantTokens(t, "!==", sign("!=", 0), sign("=", 2))
	wantTokens(t, "<<=", sign("<", 0), sign("<=", 1))
	wantTokens(t, "=<", sign("=", 0), sign("<", 1))
	wantTokens(t, "< =", sign("<", 0), sign("=", 2))
	wantTokens(t, "+=", sign("+", 0), sign("=", 1))
	wantTokens(t, "--1", sign("-", 0), sign("-", 1), num(1, 2))
}

// 10.1: signs that are none.
func TestNoSigns(t *testing.T) {
	for _, s := range []string{"!", "! =", "!!=", "!<", "!\n=", ">", ">=", "/", "%", "&", "|", "^", "~", "?", "@", "#", "$", ",", "[", "]", "{", "}", "\\", "\"", "`", "_"} {
		wantFault(t, s, 0, api.ErrToken)
		wantFault(t, "a "+s, 2, api.ErrToken)
	}
	wantFault(t, "=!", 1, api.ErrToken)
	wantFault(t, "!=!", 2, api.ErrToken)
	wantFault(t, "<>", 1, api.ErrToken)
}

// 10.1: at most api.MaxBytes bytes, ahead of all else that may be wrong.
func TestLongText(t *testing.T) {
	most := strings.Repeat(" ", api.MaxBytes)
	wantTokens(t, most)
	wantTokens(t, most[1:]+"a", word("a", api.MaxBytes-1))
	wantTokens(t, "a"+most[1:], word("a", 0))
	wantFault(t, most[1:]+"A", api.MaxBytes-1, api.ErrToken)
	for _, s := range []string{most + " ", most + "a", "a" + most, "A" + most, "'" + most, most + most, strings.Repeat("a", api.MaxBytes+1), strings.Repeat("a ", api.MaxBytes)} {
		wantFault(t, s, 0, api.ErrLong)
	}
}

// 10.1: at most api.MaxItems tokens, for which the end does not count.
func TestManyTokens(t *testing.T) {
	for _, x := range []api.Token{word("a", 0), num(7, 0), text("x", 0), text("", 0), sign("+", 0), sign("<=", 0)} {
		one, e := token.Join([]api.Token{x})
		if e != api.OK {
			t.Fatal(x, e)
		}
		one += " "
		var want []api.Token
		for i := range api.MaxItems {
			x.At = i * len(one)
			want = append(want, x)
		}
		most := strings.Repeat(one, api.MaxItems)
		wantTokens(t, most, want...)
		wantTokens(t, most+" \n \n", want...)
		wantTokens(t, most[:len(most)-1], want...)
		wantTokens(t, most[len(one):], want[:api.MaxItems-1]...)
		for _, behind := range []string{"a", "0 ", "''", "<=", "a a a", one, most[:len(most)/2]} {
			wantFault(t, most+behind, len(most), api.ErrLong)
			wantFault(t, most+"\n\n"+behind, len(most)+2, api.ErrLong)
		}
	}
}

// 10.1: no token is one too many: where it would begin ErrToken is named first. Of faults at two
// places the first one in the text is answered.
func TestManyTokensAndWrong(t *testing.T) {
	most := strings.Repeat("a ", api.MaxItems)
	for _, wrong := range []string{"A", "!", "07", "'", "'\n'", strings.Repeat("a", api.MaxName+1), "9223372036854775808"} {
		wantFault(t, most+wrong, len(most), api.ErrToken)
		wantFault(t, most+" "+wrong+" a", len(most)+1, api.ErrToken)
		wantFault(t, wrong+"\n"+most+"a", 0, api.ErrToken)
		wantFault(t, most+"a "+wrong, len(most), api.ErrLong)
	}
}

// R4, R7: tokens share no memory with the text, and none with those of another call.
func TestTokensAreNew(t *testing.T) {
	room := []byte("zabc <= 'x y' 12zz")
	s := unsafe.String(&room[1], len(room)-3)
	want := []api.Token{word("abc", 0), sign("<=", 4), text("x y", 7), num(12, 13), end(15)}
	a, _ := token.Tokens(s)
	b, _ := token.Tokens(s)
	if string(room) != "zabc <= 'x y' 12zz" {
		t.Errorf("the text is %q now", room)
	}
	for i := range room {
		room[i] = '#'
	}
	for i := range b[:cap(b)] {
		b[:cap(b)][i] = api.Token{Kind: 9, S: "z", N: 9, At: 9}
	}
	if !slices.Equal(a, want) {
		t.Errorf("tokens are %v now, want %v", a, want)
	}
	for range 2 {
		wantTokens(t, "abc <= 'x y' 12", want[:4]...)
	}
}
