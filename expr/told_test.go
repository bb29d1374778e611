package expr_test

import (
	"fmt"
	"math"
	"slices"
	"strings"
	"testing"

	"weaver/api"
	"weaver/expr"
	"weaver/token"
)

func tok(kind int, s string, at int) api.Token { return api.Token{Kind: kind, S: s, At: at} }
func end(at int) api.Token                     { return api.Token{Kind: api.TEnd, At: at} }
func one(at int) api.Token                     { return api.Token{Kind: api.TNum, N: 1, At: at} }
func tokens(l ...api.Token) []api.Token        { return l }

func wantNotTold(t *testing.T, l ...api.Token) {
	t.Helper()
	wantParseFault(t, l, 0, api.ErrToken)
}

// 11.2: an end stands last, and there alone.
func TestEndIsLast(t *testing.T) {
	wantNotTold(t)
	wantNotTold(t, []api.Token{}...)
	wantNotTold(t, one(0))
	wantNotTold(t, one(0), tok(api.TSign, "+", 1), one(2))
	wantNotTold(t, end(0), end(0))
	wantNotTold(t, one(0), end(1), end(1))
	wantNotTold(t, end(0), one(0))
	wantNotTold(t, one(0), end(1), one(1), end(2))
	wantNotTold(t, slices.Repeat(tokens(end(0)), 1<<16)...)
	wantParse(t, tokens(one(0), end(1)), 1, num(1))
	wantParseFault(t, tokens(end(0)), 0, api.ErrExpr)
	wantParseFault(t, tokens(end(7)), 7, api.ErrExpr)
}

// 11.2: tokens that could not come out of Tokens, ahead of what is read and behind it; and ahead of
// all that is wrong with how they stand.
func TestWrongTokens(t *testing.T) {
	long := strings.Repeat("a", api.MaxName+1)
	huge := strings.Repeat("a", api.MaxText+1)
	wrong := tokens(
		tok(5, "", 4), tok(-1, "", 4), tok(256+1, "a", 4), tok(math.MinInt, "a", 4), tok(math.MaxInt, "", 4),
		tok(api.TWord, "", 4), tok(api.TWord, "A", 4), tok(api.TWord, "0", 4), tok(api.TWord, "a b", 4), tok(api.TWord, "+", 4), tok(api.TWord, long, 4), tok(api.TWord, huge, 4),
		tok(api.TSign, "", 4), tok(api.TSign, "!", 4), tok(api.TSign, ">", 4), tok(api.TSign, "===", 4), tok(api.TSign, "or", 4), tok(api.TSign, "n0", 4), tok(api.TSign, huge, 4),
		tok(api.TText, "'", 4), tok(api.TText, "\n", 4), tok(api.TText, huge, 4), tok(api.TNum, "1", 4), tok(api.TEnd, "x", 4),
		api.Token{Kind: api.TNum, N: -1, At: 4}, api.Token{Kind: api.TNum, N: math.MinInt64, At: 4},
		api.Token{Kind: api.TWord, S: "a", N: 1, At: 4}, api.Token{Kind: api.TSign, S: "+", N: 1, At: 4}, api.Token{Kind: api.TText, S: "x", N: -1, At: 4},
		api.Token{Kind: api.TEnd, N: 1, At: 4},
	)
	for _, w := range wrong {
		wantNotTold(t, w)
		wantNotTold(t, w, end(1000))
		wantNotTold(t, one(0), w, end(1000))
		wantNotTold(t, one(0), w)
		wantNotTold(t, one(0), tok(api.TSign, ";", 2), w, end(1000))
		wantNotTold(t, tok(api.TSign, "+", 0), w, end(1000))
	}
}

// 11.2: places that Tokens could not tell.
func TestWrongPlaces(t *testing.T) {
	for _, at := range []int{-1, -2, math.MinInt, math.MaxInt, api.MaxBytes, api.MaxBytes + 1, 1 << 32, 1 << 40} {
		wantNotTold(t, one(at), end(at+1))
		wantNotTold(t, one(at), end(1))
		wantNotTold(t, one(at), end(math.MaxInt))
		wantNotTold(t, tok(api.TSign, "(", 0), one(at), tok(api.TSign, ")", 3), end(4))
		if at != api.MaxBytes {
			wantNotTold(t, one(0), end(at))
			wantNotTold(t, end(at))
		}
	}
	wantNotTold(t, one(0), end(0))
	wantNotTold(t, one(1), end(1))
	wantNotTold(t, one(0), tok(api.TSign, "+", 0), one(2), end(3))
	wantNotTold(t, one(2), tok(api.TSign, "+", 1), one(0), end(3))
	wantNotTold(t, tok(api.TWord, "type", 0), tok(api.TSign, ";", 3), end(5))
	wantNotTold(t, tok(api.TText, "xy", 0), end(3))
	wantNotTold(t, tok(api.TText, "xy", 0), tok(api.TSign, ";", 2), end(5))
	wantNotTold(t, api.Token{Kind: api.TNum, N: 100, At: 0}, tok(api.TSign, ";", 2), end(5))
	wantParse(t, tokens(one(api.MaxBytes-1), end(api.MaxBytes)), 1, num(1))
	wantParse(t, tokens(one(0), end(api.MaxBytes)), 1, num(1))
	wantParse(t, tokens(tok(api.TText, "xy", 3), end(7)), 1, text("xy"))
	wantParse(t, tokens(tok(api.TText, "xy", 3), end(9)), 1, text("xy"))
}

// 11.2: tokens that stand so near that Tokens would tell others.
func TestTooNear(t *testing.T) {
	word, sign := api.TWord, api.TSign
	wantNotTold(t, tok(word, "n0", 0), tok(word, "n0", 2), end(4))
	wantNotTold(t, tok(word, "n0", 0), one(2), end(3))
	wantNotTold(t, one(0), one(1), end(2))
	wantNotTold(t, api.Token{Kind: api.TNum, At: 0}, one(1), end(2))
	wantNotTold(t, one(0), tok(sign, "<", 1), tok(sign, "=", 2), end(3))
	wantNotTold(t, one(0), tok(sign, "=", 1), tok(sign, "==", 2), end(4))
	wantNotTold(t, one(0), tok(sign, "<", 1), tok(sign, "==", 2), end(4))
	wantParse(t, tokens(one(0), tok(sign, "<", 1), one(2), end(3)), 3, less(num(1), num(1))...)
	wantParse(t, tokens(tok(api.TText, "", 0), tok(sign, "==", 2), tok(api.TText, "", 4), tok(api.TText, "x", 6), end(9)), 3, op(api.EEqual), text(""), text(""))
	wantParseFault(t, tokens(one(0), tok(word, "or", 1), tok(sign, "<=", 3), tok(sign, "=", 5), end(6)), 3, api.ErrExpr)
}

// 11.2: as many tokens as Tokens tells, and no more; as long a text.
func TestManyTold(t *testing.T) {
	var l []api.Token
	for i := range api.MaxItems {
		l = append(l, one(2*i))
	}
	wantParse(t, append(slices.Clone(l), end(2*api.MaxItems)), 1, num(1))
	wantNotTold(t, append(slices.Clone(l), one(2*api.MaxItems), end(2*api.MaxItems+1))...)
	wantNotTold(t, l...)
	full := strings.Repeat("x", api.MaxText)
	var texts []api.Token
	for at := 0; at+len(full)+2 <= api.MaxBytes; at += len(full) + 2 {
		texts = append(texts, tok(api.TText, full, at))
	}
	room := len(texts) * (len(full) + 2)
	wantParse(t, append(slices.Clone(texts), end(room)), 1, text(full))
	wantParse(t, append(slices.Clone(texts), end(api.MaxBytes)), 1, text(full))
	wantNotTold(t, append(slices.Clone(texts), tok(api.TText, full, room), end(room+len(full)+2))...)
}

// allTexts calls with each text of up to so many of these bytes.
func allTexts(bytes string, n int, call func(s string)) {
	level := []string{""}
	for range n + 1 {
		var longer []string
		for _, s := range level {
			call(s)
			for i := range len(bytes) {
				longer = append(longer, s+bytes[i:i+1])
			}
		}
		level = longer
	}
}

// 11.2: all lists of up to two short tokens and an end, at all places: those that some text has are
// read, all others are not.
func TestAllPlaces(t *testing.T) {
	const most = 5
	could := map[string]bool{}
	allTexts("n0<=' ", most, func(s string) {
		if l, f := token.Tokens(s); f.Code == api.OK {
			could[fmt.Sprint(l)] = true
		}
	})
	var some []api.Token
	for at := -1; at <= most; at++ {
		some = append(some, tok(api.TWord, "n", at), tok(api.TWord, "n0", at), tok(api.TNum, "", at), tok(api.TText, "", at), tok(api.TText, "<", at),
			tok(api.TSign, "<", at), tok(api.TSign, "=", at), tok(api.TSign, "<=", at), tok(api.TSign, "==", at))
	}
	right := 0
	try := func(l ...api.Token) {
		for at := -1; at <= most; at++ {
			l := append(slices.Clone(l), end(at))
			_, _, f := expr.Parse(l)
			if could[fmt.Sprint(l)] == (f.Code == api.ErrToken) {
				t.Fatalf("Parse(%v): %v", l, f)
			}
			if f.Code != api.ErrToken {
				right++
				want, to, fault := modelParse(append(slices.Clone(l), end(at), end(at)))
				if x, n, f := expr.Parse(l); !slices.Equal(x, want) || n != to || f != fault {
					t.Fatalf("Parse(%v) = %v, %d, %v, want %v, %d, %v", l, x, n, f, want, to, fault)
				}
			}
		}
	}
	try()
	for _, a := range some {
		try(a)
		for _, b := range some {
			try(a, b)
		}
	}
	if right < 500 {
		t.Error("few were right:", right)
	}
}
