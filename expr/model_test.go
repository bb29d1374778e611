package expr_test

import (
	"fmt"
	"math/big"
	"math/rand"
	"slices"
	"strconv"

	"weaver/api"
)

// tree is an expression as the tests know it: a part, and the trees of its sides.
type tree struct {
	part  api.Part
	sides []*tree
}

var binary = []int{api.EAdd, api.ESub, api.EMul, api.ELess, api.EAtMost, api.EEqual, api.EUnlike, api.EAnd, api.EOr}

var signOf = map[int]string{
	api.EAdd: "+", api.ESub: "-", api.EMul: "*", api.ELess: "<", api.EAtMost: "<=", api.EEqual: "==",
	api.EUnlike: "!=", api.EAnd: "and", api.EOr: "or", api.ENot: "not",
}

// kindOf has each operation, with the kinds of its sides, that may be.
var kindOf = map[[3]int]int{
	{api.EAdd, 1, 1}: 1, {api.ESub, 1, 1}: 1, {api.EMul, 1, 1}: 1,
	{api.ELess, 1, 1}: 3, {api.EAtMost, 1, 1}: 3,
	{api.EEqual, 1, 1}: 3, {api.EEqual, 2, 2}: 3, {api.EUnlike, 1, 1}: 3, {api.EUnlike, 2, 2}: 3,
	{api.EAnd, 3, 3}: 3, {api.EOr, 3, 3}: 3, {api.ENot, 3, 0}: 3,
}

func of(kind int, sides ...*tree) *tree {
	return &tree{part: api.Part{Kind: kind}, sides: sides}
}

func leaf(p api.Part) *tree { return &tree{part: p} }

func num(n int64) api.Part   { return api.Part{Kind: api.ENum, N: n} }
func text(s string) api.Part { return api.Part{Kind: api.EText, S: s} }
func field(stage string, field int) api.Part {
	return api.Part{Kind: api.EField, Stage: stage, Field: field}
}
func op(kind int) api.Part                   { return api.Part{Kind: kind} }
func list(parts ...api.Part) []api.Part      { return parts }
func join(lists ...[]api.Part) []api.Part    { return slices.Concat(lists...) }
func fault(at int, code api.Errno) api.Fault { return api.Fault{At: at, Code: code} }
func repeat(p api.Part, n int) []api.Part    { return slices.Repeat(list(p), n) }
func less(a, b api.Part) []api.Part          { return list(op(api.ELess), a, b) }
func named(s ...string) []string             { return s }
func events(l ...api.Event) []api.Event      { return l }
func numbers(a, b, c, d int64) (e api.Event) { e.N = [4]int64{a, b, c, d}; return e }

// told is a list as a text, for a message that may cut it off.
func told[T any](l []T) string { return fmt.Sprint(l) }

func (t *tree) parts() []api.Part {
	out := list(t.part)
	for _, s := range t.sides {
		out = append(out, s.parts()...)
	}
	return out
}

func (t *tree) depth() int {
	deepest := 0
	for _, s := range t.sides {
		deepest = max(deepest, s.depth())
	}
	return deepest + 1
}

// kind asks for right leaves alone.
func (t *tree) kind() int {
	switch t.part.Kind {
	case api.ENum:
		return 1
	case api.EText:
		return 2
	case api.EField:
		if t.part.Field < 4 {
			return 1
		}
		return 2
	}
	row := [3]int{t.part.Kind}
	for i, s := range t.sides {
		row[i+1] = s.kind()
	}
	return kindOf[row]
}

func (t *tree) mayBe() bool {
	return len(t.parts()) <= 200 && t.depth() <= 32 && t.kind() != 0
}

func (t *tree) written() string {
	inner := func(s *tree) string {
		if len(s.sides) == 0 {
			return s.written()
		}
		return "( " + s.written() + " )"
	}
	sign := signOf[t.part.Kind]
	switch len(t.sides) {
	case 1:
		return sign + " " + inner(t.sides[0])
	case 2:
		return inner(t.sides[0]) + " " + sign + " " + inner(t.sides[1])
	}
	switch t.part.Kind {
	case api.ENum:
		return strconv.FormatInt(t.part.N, 10)
	case api.EText:
		return "'" + t.part.S + "'"
	}
	name := []string{"n0", "n1", "n2", "n3", "type", "text"}[t.part.Field]
	if t.part.Stage == "" {
		return name
	}
	return t.part.Stage + " . " + name
}

// as64 is the number modulo 2^64 as it stands in an int64, reckoned with numbers that have no end.
func as64(x *big.Int) *big.Int {
	half, whole := new(big.Int).Lsh(big.NewInt(1), 63), new(big.Int).Lsh(big.NewInt(1), 64)
	x = new(big.Int).Mod(new(big.Int).Add(x, half), whole)
	return x.Sub(x, half)
}

func eventOf(stage string, e api.Event, names []string, last []api.Event) api.Event {
	if stage == "" {
		return e
	}
	for i, s := range names {
		if s == stage {
			return last[i]
		}
	}
	panic("no stage " + stage)
}

func (t *tree) number(e api.Event, names []string, last []api.Event) *big.Int {
	switch t.part.Kind {
	case api.ENum:
		return big.NewInt(t.part.N)
	case api.EField:
		return big.NewInt(eventOf(t.part.Stage, e, names, last).N[t.part.Field])
	}
	a, b := t.sides[0].number(e, names, last), t.sides[1].number(e, names, last)
	switch t.part.Kind {
	case api.EAdd:
		return as64(new(big.Int).Add(a, b))
	case api.ESub:
		return as64(new(big.Int).Sub(a, b))
	}
	return as64(new(big.Int).Mul(a, b))
}

func (t *tree) text(e api.Event, names []string, last []api.Event) string {
	if t.part.Kind == api.EText {
		return t.part.S
	}
	if x := eventOf(t.part.Stage, e, names, last); t.part.Field == api.FType {
		return x.Type
	} else {
		return x.Text
	}
}

func (t *tree) truth(e api.Event, names []string, last []api.Event) bool {
	a := t.sides[0]
	switch t.part.Kind {
	case api.ENot:
		return !a.truth(e, names, last)
	case api.EAnd:
		return a.truth(e, names, last) && t.sides[1].truth(e, names, last)
	case api.EOr:
		return a.truth(e, names, last) || t.sides[1].truth(e, names, last)
	}
	if a.kind() == 2 {
		same := a.text(e, names, last) == t.sides[1].text(e, names, last)
		return same == (t.part.Kind == api.EEqual)
	}
	d := a.number(e, names, last).Cmp(t.sides[1].number(e, names, last))
	return map[int]bool{api.ELess: d < 0, api.EAtMost: d <= 0, api.EEqual: d == 0, api.EUnlike: d != 0}[t.part.Kind]
}

var (
	someNames   = []string{"a", "b", "c9", "start", "within", "n4", "orr", "types", "abcdefghijklmnopqrstuvwxyz012345"}
	someTexts   = []string{"", "x", "y", "xy", "or", "(", "n0", " x ", "\x00\xff", "\"", "é"}
	someNumbers = []int64{0, 1, 2, 3, 7, 10, 1 << 31, 1 << 32, 1<<32 + 1, 1 << 62, 1<<63 - 2, 1<<63 - 1}
)

func pick[T any](r *rand.Rand, of []T) T { return of[r.Intn(len(of))] }

// someTree is a random expression of a kind, that goes at most so deep: at least 2, if it is a truth.
func someTree(r *rand.Rand, kind, deep int) *tree {
	stage := ""
	if r.Intn(2) == 0 {
		stage = pick(r, someNames)
	}
	switch {
	case kind == 2 && r.Intn(2) == 0:
		return leaf(text(pick(r, someTexts)))
	case kind == 2:
		return leaf(field(stage, 4+r.Intn(2)))
	case kind == 1 && (deep < 2 || r.Intn(3) > 0):
		if r.Intn(2) == 0 {
			return leaf(num(pick(r, someNumbers)))
		}
		return leaf(field(stage, r.Intn(4)))
	case kind == 1:
		return of(pick(r, []int{api.EAdd, api.ESub, api.EMul}), someTree(r, 1, deep-1), someTree(r, 1, deep-1))
	}
	switch k := r.Intn(6); {
	case deep > 2 && k == 0:
		return of(api.ENot, someTree(r, 3, deep-1))
	case deep > 2 && k < 3:
		return of(pick(r, []int{api.EAnd, api.EOr}), someTree(r, 3, deep-1), someTree(r, 3, deep-1))
	case k == 3:
		return of(pick(r, []int{api.EEqual, api.EUnlike}), someTree(r, 2, deep-1), someTree(r, 2, deep-1))
	}
	return of(pick(r, binary[3:7]), someTree(r, 1, deep-1), someTree(r, 1, deep-1))
}
