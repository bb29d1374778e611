package expr_test

import (
	"math"
	"slices"
	"strings"
	"testing"

	"weaver/api"
	"weaver/expr"
)

var (
	anyEvent = numbers(1, 2, 3, 4)
	words    = []string{"or", "and", "not", "n0", "n1", "n2", "n3", "type", "text"}
)

// wantMay: Check tells the kind, and the other calls do not refuse.
func wantMay(t *testing.T, kind int, x []api.Part) {
	t.Helper()
	if k, e := expr.Check(x); k != kind || e != api.OK {
		t.Errorf("Check(%.600s) = %d, %d, want %d", told(x), k, e, kind)
	}
	s, e := expr.Write(x)
	if s == "" || e != api.OK {
		t.Errorf("Write(%.600s) = %.80q, %d", told(x), s, e)
	}
	if again, f := expr.Read(s); f != (api.Fault{}) || !slices.Equal(again, x) {
		t.Errorf("Read(%.300q) = %.600s, %v, want %.600s", s, told(again), f, told(x))
	}
	names, e := expr.Stages(x)
	if e != api.OK {
		t.Errorf("Stages(%.600s) = %v, %d", told(x), names, e)
	}
	want := api.ErrExpr
	if kind == 3 {
		want = api.OK
	}
	if ok, e := expr.Holds(x, anyEvent, names, make([]api.Event, len(names))); e != want || e != api.OK && ok {
		t.Errorf("Holds(%.600s) = %v, %d, want %d", told(x), ok, e, want)
	}
}

// wantMayNot: all four calls refuse, with nothing beside (R5); Holds whatever else is wrong (R1).
func wantMayNot(t *testing.T, x []api.Part) {
	t.Helper()
	if k, e := expr.Check(x); k != 0 || e != api.ErrExpr {
		t.Errorf("Check(%.600s) = %d, %d", told(x), k, e)
	}
	if s, e := expr.Write(x); s != "" || e != api.ErrExpr {
		t.Errorf("Write(%.600s) = %.80q, %d", told(x), s, e)
	}
	if l, e := expr.Stages(x); len(l) != 0 || e != api.ErrExpr {
		t.Errorf("Stages(%.600s) = %v, %d", told(x), l, e)
	}
	for _, names := range [][]string{nil, {"a"}} {
		for _, last := range [][]api.Event{nil, {anyEvent}} {
			if ok, e := expr.Holds(x, anyEvent, names, last); ok || e != api.ErrExpr {
				t.Errorf("Holds(%.600s) = %v, %d", told(x), ok, e)
			}
		}
	}
}

// wantMayNotLeaf: nor may it be a side of an operation that is right else.
func wantMayNotLeaf(t *testing.T, p api.Part) {
	t.Helper()
	wantMayNot(t, list(p))
	for _, other := range []api.Part{num(1), text("x")} {
		wantMayNot(t, list(op(api.EEqual), p, other))
		wantMayNot(t, list(op(api.EUnlike), other, p))
	}
	wantMayNot(t, join(list(op(api.EAnd)), less(num(1), num(2)), less(num(3), p)))
	wantMayNot(t, list(op(api.EEqual), p, p))
}

// 11.1: numbers from 0 on, with nothing else in the part.
func TestNumbers(t *testing.T) {
	for _, n := range []int64{0, 1, 9, 10, 1 << 31, 1 << 32, math.MaxInt64 - 1, math.MaxInt64} {
		wantMay(t, 1, list(num(n)))
		wantMayNotLeaf(t, api.Part{Kind: api.ENum, N: n, S: "x"})
		wantMayNotLeaf(t, api.Part{Kind: api.ENum, N: n, Stage: "a"})
		wantMayNotLeaf(t, api.Part{Kind: api.ENum, N: n, Field: 1})
		wantMayNotLeaf(t, api.Part{Kind: api.ENum, N: n, Field: -1})
	}
	for _, n := range []int64{-1, -2, math.MinInt32, math.MinInt64 + 1, math.MinInt64} {
		wantMayNotLeaf(t, num(n))
	}
}

// 11.1: texts that could be ones of chapter 10: each byte, and how long.
func TestTexts(t *testing.T) {
	for c := range 256 {
		s := "a" + string([]byte{byte(c)}) + "b"
		if c == '\'' || c == '\n' {
			wantMayNotLeaf(t, text(s))
			wantMayNotLeaf(t, text(s[1:2]))
			continue
		}
		wantMay(t, 2, list(text(s)))
		wantMay(t, 2, list(text(s[1:2])))
	}
	for _, s := range []string{"", "x", "or", "é", "\xff\xfe", strings.Repeat("x", api.MaxText-1), strings.Repeat("\xff", api.MaxText)} {
		wantMay(t, 2, list(text(s)))
		wantMayNotLeaf(t, api.Part{Kind: api.EText, S: s, N: 1})
		wantMayNotLeaf(t, api.Part{Kind: api.EText, S: s, N: -1})
		wantMayNotLeaf(t, api.Part{Kind: api.EText, S: s, Stage: "a"})
		wantMayNotLeaf(t, api.Part{Kind: api.EText, S: s, Field: api.FText})
	}
	for _, n := range []int{api.MaxText + 1, 2 * api.MaxText, 1 << 16} {
		wantMayNotLeaf(t, text(strings.Repeat("x", n)))
	}
	wantMayNotLeaf(t, text(strings.Repeat("x", api.MaxText-1)+"'"))
	wantMayNotLeaf(t, text(strings.Repeat("x", api.MaxText-1)+"\n"))
}

// 11.1: fields from 0 to 5, of the event at hand and of stages.
func TestFields(t *testing.T) {
	kinds := []int{1, 1, 1, 1, 2, 2}
	for f, kind := range kinds {
		for _, stage := range append(someNames, "") {
			wantMay(t, kind, list(field(stage, f)))
			wantMayNotLeaf(t, api.Part{Kind: api.EField, Stage: stage, Field: f, N: 1})
			wantMayNotLeaf(t, api.Part{Kind: api.EField, Stage: stage, Field: f, S: "x"})
		}
	}
	for _, f := range []int{-1, -4, 6, 7, 256, 260, 1 << 32, 1<<32 + 4, math.MinInt, math.MaxInt} {
		wantMayNotLeaf(t, field("", f))
		wantMayNotLeaf(t, field("a", f))
	}
}

// 11.1: a stage's name is one of chapter 2, begins with a letter, and is no word of the grammar.
func TestStageNames(t *testing.T) {
	for c := range 256 {
		s := string([]byte{byte(c)})
		letter, digit := 'a' <= c && c <= 'z', '0' <= c && c <= '9'
		for _, name := range []string{s, s + "b", s + "9"} {
			if letter && !slices.Contains(words, name) {
				wantMay(t, 1, list(field(name, 0)))
			} else {
				wantMayNotLeaf(t, field(name, 0))
			}
		}
		for _, name := range []string{"a" + s, "a" + s + "b"} {
			if letter || digit {
				wantMay(t, 2, list(field(name, 4)))
			} else {
				wantMayNotLeaf(t, field(name, 4))
			}
		}
	}
	for _, s := range words {
		wantMayNotLeaf(t, field(s, 0))
		wantMayNotLeaf(t, field(s, 5))
		wantMayNotLeaf(t, field(" "+s, 0))
		wantMay(t, 1, list(field(s+"s", 0)))
		wantMay(t, 1, list(field("a"+s, 0)))
	}
	for _, s := range []string{"n4", "n9", "n", "n00", "n01", "o", "an", "no", "start", "next", "then", "any", "within", "true"} {
		wantMay(t, 1, list(field(s, 0)))
	}
	wantMay(t, 1, list(field(strings.Repeat("z", api.MaxName), 0)))
	for _, n := range []int{api.MaxName + 1, 2 * api.MaxName, 256 + 1, 1 << 16} {
		wantMayNotLeaf(t, field(strings.Repeat("z", n), 0))
	}
}

// 11.1: parts of no Kind, alone and with as many sides as they could want.
func TestOtherKinds(t *testing.T) {
	for _, k := range []int{0, 14, 15, -1, -4, 256 + 1, 256 + 13, 1 << 32, 1<<32 + 1, math.MinInt, math.MaxInt} {
		wantMayNotLeaf(t, op(k))
		wantMayNotLeaf(t, api.Part{Kind: k, N: 1})
		wantMayNotLeaf(t, api.Part{Kind: k, S: "x"})
		wantMayNot(t, list(op(k), num(1)))
		wantMayNot(t, list(op(k), num(1), num(2)))
		wantMayNot(t, join(list(op(k)), less(num(1), num(2))))
	}
}

// 11.1: each operation, of sides of each kind.
func TestOperations(t *testing.T) {
	samples := [][][]api.Part{
		1: {list(num(1)), list(field("", 0)), list(field("a", 3)), list(op(api.EAdd), num(1), num(2))},
		2: {list(text("x")), list(field("", 4)), list(field("a", 5))},
		3: {less(num(1), num(2)), list(op(api.EUnlike), text("x"), text("y")), join(list(op(api.ENot)), less(num(1), num(2)))},
	}
	for _, k := range append(binary, api.ENot) {
		for a := 1; a <= 3; a++ {
			for _, x := range samples[a] {
				wantOf(t, k, kindOf[[3]int{k, a, 0}], x)
				for b := 1; b <= 3; b++ {
					for _, y := range samples[b] {
						wantOf(t, k, kindOf[[3]int{k, a, b}], x, y)
					}
				}
			}
		}
	}
}

// wantOf: and with anything else in its part the operation may not be.
func wantOf(t *testing.T, kind, want int, sides ...[]api.Part) {
	t.Helper()
	behind := join(sides...)
	x := join(list(op(kind)), behind)
	if want == 0 {
		wantMayNot(t, x)
		return
	}
	wantMay(t, want, x)
	for _, p := range []api.Part{{Kind: kind, N: 1}, {Kind: kind, N: -1}, {Kind: kind, S: "x"}, {Kind: kind, Stage: "a"}, {Kind: kind, Field: 1}, {Kind: kind, Field: -1}} {
		wantMayNot(t, join(list(p), behind))
	}
}

// 11.1: one whole expression: nothing, sides that are missing, and something behind.
func TestWhole(t *testing.T) {
	wantMayNot(t, nil)
	wantMayNot(t, []api.Part{})
	for _, k := range append(binary, api.ENot) {
		wantMayNot(t, list(op(k)))
		wantMayNot(t, list(op(k), op(k)))
		wantMayNot(t, list(num(1), op(k)))
		wantMayNot(t, list(num(1), num(2), op(k)))
		wantMayNot(t, list(num(1), op(k), num(2)))
		wantMayNot(t, repeat(op(k), 200))
	}
	wantMayNot(t, list(op(api.EAdd), num(1)))
	wantMayNot(t, list(op(api.EAdd), num(1), num(2), num(3)))
	wantMayNot(t, list(op(api.EEqual), text("x")))
	wantMayNot(t, list(num(1), num(1)))
	wantMayNot(t, join(less(num(1), num(2)), less(num(1), num(2))))
	wantMayNot(t, join(list(op(api.EAnd)), less(num(1), num(2))))
	wantMayNot(t, join(list(op(api.ENot)), less(num(1), num(2)), less(num(1), num(2))))
	wantMayNot(t, repeat(num(1), 200))
}

// sums is the sum of so many numbers, as flat as can be.
func sums(n int) *tree {
	if n == 1 {
		return leaf(num(1))
	}
	return of(api.EAdd, sums(n/2), sums(n-n/2))
}

// 11.1: at most 200 parts.
func TestManyParts(t *testing.T) {
	wantMay(t, 1, sums(100).parts())
	wantMayNot(t, sums(101).parts())
	flat := of(api.ELess, sums(50), sums(50))
	wantMay(t, 3, flat.parts())
	wantMay(t, 3, of(api.ENot, flat).parts())
	if n := len(of(api.ENot, flat).parts()); n != 200 {
		t.Fatal(n)
	}
	wantMayNot(t, of(api.ENot, of(api.ENot, flat)).parts())
	wantMayNot(t, of(api.ELess, sums(50), sums(51)).parts())
	wantMayNot(t, sums(1<<12).parts())
	wantMayNot(t, sums(1<<15).parts())
}

// 11.1: at most api.MaxDepth deep, on either side; brackets are no parts, and go into no depth.
func TestDeepParts(t *testing.T) {
	for _, d := range []int{2, api.MaxDepth - 1, api.MaxDepth, api.MaxDepth + 1, api.MaxDepth + 2, 90} {
		left, right, truth := leaf(num(1)), leaf(num(1)), of(api.ELess, leaf(num(1)), leaf(num(2)))
		for range d - 1 {
			left, right = of(api.ESub, left, leaf(num(2))), of(api.ESub, leaf(num(2)), right)
		}
		for range d - 2 {
			truth = of(api.ENot, truth)
		}
		both := of(api.EAdd, leaf(num(1)), left)
		if left.depth() != d || right.depth() != d || truth.depth() != d || both.depth() != d+1 {
			t.Fatal(d)
		}
		if d > api.MaxDepth {
			wantMayNot(t, left.parts())
			wantMayNot(t, right.parts())
			wantMayNot(t, truth.parts())
			continue
		}
		wantMay(t, 1, left.parts())
		wantMay(t, 1, right.parts())
		wantMay(t, 3, truth.parts())
		if d == api.MaxDepth {
			wantMayNot(t, both.parts())
			wantMayNot(t, of(api.EAdd, right, leaf(num(1))).parts())
		}
	}
}
