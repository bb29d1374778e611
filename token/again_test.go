package token_test

import (
	"math/rand"
	"regexp"
	"slices"
	"strconv"
	"strings"
	"testing"

	"weaver/api"
	"weaver/token"
)

// forms are the chapter's tokens by patterns of the library, to hold Tokens against: which text
// stands there, as long as it goes, and whether it may be.
var forms = []struct {
	kind int
	form *regexp.Regexp
}{
	{api.TWord, regexp.MustCompile(`^[a-z][a-z0-9]*`)},
	{api.TNum, regexp.MustCompile(`^[0-9]+`)},
	{api.TText, regexp.MustCompile(`^'[^'\n]*'`)},
	{api.TSign, regexp.MustCompile(`^(<=|==|!=|[():;.+*<=-])`)},
}

func made(kind int, s string, at int) (api.Token, bool) {
	switch kind {
	case api.TWord:
		return word(s, at), len(s) <= api.MaxName
	case api.TNum:
		n, err := strconv.ParseUint(s, 10, 64)
		return num(int64(n), at), err == nil && n < 1<<63 && strconv.FormatUint(n, 10) == s
	case api.TText:
		return text(s[1:len(s)-1], at), len(s) <= api.MaxText+2
	}
	return sign(s, at), true
}

// model is what Tokens is to tell of a short text.
func model(s string) ([]api.Token, api.Fault) {
	var out []api.Token
next:
	for at := 0; at < len(s); {
		if s[at] == ' ' || s[at] == '\n' {
			at++
			continue
		}
		for _, x := range forms {
			if found := x.form.FindString(s[at:]); found != "" {
				one, ok := made(x.kind, found, at)
				if !ok {
					break
				}
				out = append(out, one)
				at += len(found)
				continue next
			}
		}
		return nil, api.Fault{At: at, Code: api.ErrToken}
	}
	return append(out, end(len(s))), api.Fault{}
}

func wantModel(t *testing.T, s string) {
	t.Helper()
	l, f := token.Tokens(s)
	if want, fault := model(s); !slices.Equal(l, want) || f != fault {
		t.Fatalf("Tokens(%q) = %v, %v, want %v, %v", s, l, f, want, fault)
	}
	if f.Code == api.OK {
		wantAgain(t, l)
	}
}

// placeless is the tokens without their places.
func placeless(l []api.Token) []api.Token {
	out := slices.Clone(l)
	for i := range out {
		out[i].At = 0
	}
	return out
}

// wantAgain joins tokens, and parts what was written.
func wantAgain(t *testing.T, l []api.Token) {
	t.Helper()
	s, e := token.Join(l)
	if e != api.OK {
		t.Fatalf("Join(%v) = %q, %d", l, s, e)
	}
	again, f := token.Tokens(s)
	if f != (api.Fault{}) || !slices.Equal(placeless(again), placeless(l)) {
		t.Fatalf("Tokens(%q) = %v, %v, want %v", s, again, f, l)
	}
	if twice, e := token.Join(again); twice != s || e != api.OK {
		t.Fatalf("Join(%v) = %q, %d, want %q", again, twice, e, s)
	}
}

// 10.1, 10.3: all texts of up to four bytes, of each sort of byte.
func TestAllShortTexts(t *testing.T) {
	const bytes = " \naz019'<=!(.-A\t\xff"
	texts := []string{""}
	for range 4 {
		var longer []string
		for _, s := range texts {
			for i := range len(bytes) {
				longer = append(longer, s+bytes[i:i+1])
			}
		}
		for _, s := range longer {
			wantModel(t, s)
		}
		texts = longer
	}
}

// 10.1, 10.3, P1: texts of pieces that are tokens, nearly tokens and none.
func TestRandomTexts(t *testing.T) {
	pieces := append([]string{" ", "\n", "  ", "a", "z9", "within", "0", "7", "07", "10", "9223372036854775807", "9223372036854775808",
		"'", "''", "'x y'", "'\xff'", "'\n", "!", "A", "\x00", "\x80", strings.Repeat("k", api.MaxName), strings.Repeat("k", api.MaxName+1),
		"'" + strings.Repeat("t", api.MaxText) + "'", "'" + strings.Repeat("t", api.MaxText+1) + "'"}, signs...)
	for seed := range int64(40000) {
		r := rand.New(rand.NewSource(seed))
		var s strings.Builder
		for range r.Intn(12) {
			s.WriteString(pieces[r.Intn(len(pieces))])
		}
		wantModel(t, s.String())
		b := make([]byte, r.Intn(20))
		r.Read(b)
		wantModel(t, string(b))
	}
}

func someToken(r *rand.Rand) api.Token {
	some := func(of string, n int) string {
		b := make([]byte, n)
		for i := range b {
			b[i] = of[r.Intn(len(of))]
		}
		return string(b)
	}
	at := int(r.Uint64())
	switch r.Intn(4) {
	case 0:
		return word(some(letters, 1)+some(letters+digits, r.Intn(api.MaxName)), at)
	case 1:
		return num(int64(r.Uint64()>>(1+r.Intn(63))), at)
	case 2:
		return text(some(" az09<=()\"\\\t\x00\x80\xff", r.Intn(api.MaxText+1)), at)
	}
	return sign(signs[r.Intn(len(signs))], at)
}

// 10.3: what is joined is parted into the same tokens; with however many blanks between two, none
// of them at the ends or some.
func TestJoinedIsParted(t *testing.T) {
	for seed := range int64(3000) {
		r := rand.New(rand.NewSource(seed))
		var l []api.Token
		var wide strings.Builder
		for range r.Intn(40) {
			x := someToken(r)
			l = append(l, x)
			s, _ := token.Join([]api.Token{x})
			wide.WriteString(s + " \n"[r.Intn(2):][:1])
			for range r.Intn(4) {
				wide.WriteByte(" \n"[r.Intn(2)])
			}
		}
		l = append(l, end(int(r.Uint64())))
		wantAgain(t, l)
		if again, f := token.Tokens(" \n" + wide.String()); f != (api.Fault{}) || !slices.Equal(placeless(again), placeless(l)) {
			t.Fatalf("Tokens(%q) = %v, %v, want %v", wide.String(), again, f, l)
		}
	}
}

// 10.3: of any two tokens, too, that would be another one without a blank between them.
func TestTwoTokens(t *testing.T) {
	all := each(signs, func(s string) api.Token { return sign(s, 0) })
	all = append(all, word("a", 0), word("a0", 0), num(0, 0), num(1, 0), num(1<<63-1, 0), text("", 0), text("x", 0), text(" ", 0))
	for _, x := range all {
		for _, y := range all {
			for _, z := range all {
				wantAgain(t, []api.Token{x, y, z, end(0)})
			}
		}
	}
}
