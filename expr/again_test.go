package expr_test

import (
	"math/rand"
	"slices"
	"strings"
	"testing"

	"weaver/api"
	"weaver/expr"
	"weaver/token"
)

// wantModel holds Parse and Read of a text against the model.
func wantModel(t *testing.T, s string) {
	t.Helper()
	l, f := token.Tokens(s)
	if f != (api.Fault{}) {
		t.Fatalf("Tokens(%q): %v", s, f)
	}
	want, to, code := modelParse(append(slices.Clone(l), end(len(s)), end(len(s))))
	x, n, f := expr.Parse(l)
	if !slices.Equal(x, want) || n != to || f != code {
		t.Fatalf("Parse of %q: %v, %d, %v, want %v, %d, %v", s, x, n, f, want, to, code)
	}
	if code == (api.Fault{}) && to < len(l)-1 {
		want, code = nil, fault(l[to].At, api.ErrExpr)
	}
	if x, f := expr.Read(s); !slices.Equal(x, want) || f != code {
		t.Fatalf("Read(%q) = %v, %v, want %v, %v", s, x, f, want, code)
	}
	if code == (api.Fault{}) {
		wantAgain(t, x)
	}
}

// wantAgain: 11.5, what is written is read as the same expression.
func wantAgain(t *testing.T, x []api.Part) {
	t.Helper()
	s, e := expr.Write(x)
	if e != api.OK {
		t.Fatalf("Write(%v) = %q, %d", x, s, e)
	}
	if again, f := expr.Read(s); !slices.Equal(again, x) || f != (api.Fault{}) {
		t.Fatalf("Read(%q) = %v, %v, want %v", s, again, f, x)
	}
	l, _ := token.Tokens(s)
	if joined, e := token.Join(l); joined != s || e != api.OK {
		t.Fatalf("Join of %q = %q, %d", s, joined, e)
	}
}

// 11.2, 11.3: all rows of up to four tokens.
func TestAllShortRows(t *testing.T) {
	pieces := []string{"n0", "a", ".", "1", "'or'", "or", "and", "not", "<", "==", "+", "-", "*", "(", ")", ";"}
	rows := []string{""}
	for range 4 {
		var longer []string
		for _, s := range rows {
			for _, p := range pieces {
				longer = append(longer, s+" "+p)
			}
		}
		for _, s := range longer {
			wantModel(t, s)
		}
		rows = longer
	}
}

// 11.2, 11.3, 11.5: long rows, most of which go on for a while.
func TestRandomRows(t *testing.T) {
	operands := []string{"n0", "n3", "type", "text", "a.n0", "b . type", "1", "0", "'x'", "''", "(", "(", "(", "not", "not ("}
	behind := []string{"+", "-", "*", "<", "<=", "==", "!=", "and", "or", "and not", "or not", ")", ")", ")", ") and", ") or", ") <"}
	any := append(append([]string{".", ";", ":", "=", "a", "or", "not"}, operands...), behind...)
	for seed := range int64(60000) {
		r := rand.New(rand.NewSource(seed))
		var s strings.Builder
		for range 1 + r.Intn(14) {
			s.WriteString(pick(r, operands) + " ")
			if r.Intn(20) == 0 {
				s.WriteString(pick(r, any) + " ")
			}
			if r.Intn(8) > 0 {
				s.WriteString(pick(r, behind) + "\n")
			}
		}
		wantModel(t, s.String())
	}
}

// 11.1, 11.5: random expressions of each kind, and what is written of them.
func TestRandomTrees(t *testing.T) {
	for seed := range int64(20000) {
		r := rand.New(rand.NewSource(seed))
		kind := 1 + r.Intn(3)
		x := someTree(r, kind, 2+r.Intn(7))
		if !x.mayBe() {
			wantMayNot(t, x.parts())
			continue
		}
		wantMay(t, kind, x.parts())
		wantWrite(t, x.written(), x.parts()...)
	}
}

// looser writes an expression with no more brackets than it needs, as the grammar's order says.
func (x *tree) looser() string {
	if len(x.sides) == 0 {
		return x.written()
	}
	bind := bindOf[x.part.Kind]
	side := func(s *tree, least int) string {
		if len(s.sides) > 0 && bindOf[s.part.Kind] < least {
			return "(" + s.looser() + ")"
		}
		return s.looser()
	}
	sign := signOf[x.part.Kind]
	switch {
	case x.part.Kind == api.ENot:
		return sign + " " + side(x.sides[0], bind)
	case bind == 4:
		return side(x.sides[0], bind+1) + " " + sign + " " + side(x.sides[1], bind+1)
	}
	return side(x.sides[0], bind) + " " + sign + " " + side(x.sides[1], bind+1)
}

// 11.2: brackets that are not needed do not matter.
func TestLooser(t *testing.T) {
	for seed := range int64(20000) {
		r := rand.New(rand.NewSource(seed))
		x := someTree(r, 1+r.Intn(3), 2+r.Intn(6))
		if x.mayBe() {
			wantRead(t, x.looser(), x.parts()...)
			wantRead(t, "("+x.looser()+")", x.parts()...)
		}
	}
}

// somePart is right or wrong, most often nearly right.
func somePart(r *rand.Rand) api.Part {
	p := pick(r, []api.Part{num(pick(r, someNumbers)), text(pick(r, someTexts)), field("", r.Intn(6)), field(pick(r, someNames), r.Intn(6)), op(4 + r.Intn(10)), op(4 + r.Intn(10))})
	switch r.Intn(40) {
	case 0:
		p.Kind = r.Intn(20) - 3
	case 1:
		p.N = int64(r.Uint64())
	case 2:
		p.S = pick(r, []string{"x", "'", "\n", strings.Repeat("x", 300)})
	case 3:
		p.Stage = pick(r, []string{"a", "or", "n0", "A", "9", " ", "type"})
	case 4:
		p.Field = r.Intn(20) - 7
	}
	return p
}

// P1, R1, R5: any parts: what Check refuses all refuse, and what it does not is as it is written.
func TestRandomParts(t *testing.T) {
	may := 0
	for seed := range int64(60000) {
		r := rand.New(rand.NewSource(seed))
		var x []api.Part
		for range r.Intn(8) {
			x = append(x, somePart(r))
		}
		if seed%10 == 0 {
			x = someTree(r, 1+r.Intn(3), 4).parts()
			x[r.Intn(len(x))] = somePart(r)
		}
		kind, e := expr.Check(x)
		if e != api.OK {
			wantMayNot(t, x)
			continue
		}
		may++
		wantMay(t, kind, x)
	}
	if may < 2000 {
		t.Error("few may be:", may)
	}
}

// P1: any tokens, at any places: an answer, or a fault with nothing beside it.
func TestRandomTokens(t *testing.T) {
	for seed := range int64(20000) {
		r := rand.New(rand.NewSource(seed))
		var l []api.Token
		for range r.Intn(6) {
			l = append(l, api.Token{Kind: r.Intn(7) - 1, S: pick(r, []string{"", "n0", "+", "(", "or", "a", "'", "<="}), N: int64(r.Intn(4) / 3), At: int(r.Uint64() >> (1 + r.Intn(63)))})
		}
		x, n, f := expr.Parse(append(l, end(r.Intn(8))))
		if f != (api.Fault{}) && (len(x) != 0 || n != 0) || f == (api.Fault{}) && len(x) == 0 {
			t.Fatalf("Parse(%v) = %v, %d, %v", l, x, n, f)
		}
	}
}
