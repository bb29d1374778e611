package expr_test

import (
	"math"
	"math/rand"
	"slices"
	"strings"
	"testing"

	"weaver/api"
	"weaver/expr"
)

func mustRead(t *testing.T, s string) []api.Part {
	t.Helper()
	x, f := expr.Read(s)
	if f != (api.Fault{}) {
		t.Fatalf("Read(%q): %v", s, f)
	}
	return x
}

// wantHolds: and of its ENot the other one (11.5).
func wantHolds(t *testing.T, want bool, x []api.Part, e api.Event, names []string, last []api.Event) {
	t.Helper()
	if got, c := expr.Holds(x, e, names, last); got != want || c != api.OK {
		s, _ := expr.Write(x)
		t.Errorf("Holds(%s, %v, %v, %v) = %v, %d, want %v", s, e, names, last, got, c, want)
	}
	not := join(list(op(api.ENot)), x)
	if _, c := expr.Check(not); c != api.OK {
		return
	}
	if got, c := expr.Holds(not, e, names, last); got == want || c != api.OK {
		t.Errorf("Holds(%v, %v, %v, %v) = %v, %d, want %v", not, e, names, last, got, c, !want)
	}
}

func wantNotHolds(t *testing.T, want api.Errno, x []api.Part, names []string, last []api.Event) {
	t.Helper()
	if got, c := expr.Holds(x, anyEvent, names, last); got || c != want {
		t.Errorf("Holds(%v, %v, %d events) = %v, %d, want %d", x, names, len(last), got, c, want)
	}
}

// 11.4: each operation of numbers, whose values go round at both ends.
func TestReckonNumbers(t *testing.T) {
	const most, least = math.MaxInt64, math.MinInt64
	for s, e := range map[string]api.Event{
		"n0 + n1 == n2":           numbers(2, 3, 5, 0),
		"n0 - n1 == n2":           numbers(2, 3, -1, 0),
		"n0 * n1 == n2":           numbers(-2, 3, -6, 0),
		"n0 + 1 == n1":            numbers(most, least, 0, 0),
		"n0 - 1 == n1":            numbers(least, most, 0, 0),
		"0 - n0 == n0":            numbers(least, 0, 0, 0),
		"n0 * n0 == 1 and n0 < 0": numbers(-1, 0, 0, 0),
		"n0 * 2 == n1":            numbers(most, -2, 0, 0),
		"n0 * n1 == n0":           numbers(least, -1, 0, 0),
		"n0 * n1 == 0":            numbers(1<<32, 1<<32, 0, 0),
		"n0 + n0 == 0":            numbers(least, 0, 0, 0),
		"n0 < n1 and not n1 < n0": numbers(least, most, 0, 0),
		"n0 < 0 and n1 < n0":      numbers(-1, least, 0, 0),
		"n0 <= n1 and n1 <= n0":   numbers(7, 7, 0, 0),
		"n0 <= n1 and n0 != n1":   numbers(-8, 7, 0, 0),
		"9223372036854775807 + 1 < 0 - 9223372036854775807": {},
		"1 - 2 - 3 == 0 - 4":       {},
		"1 + 2 * 3 == 7":           {},
		"(1 + 2) * 3 == 9":         {},
		"2 * 3 - 4 * 5 == 0 - 14":  {},
		"1 - (2 - 3) == 2":         {},
		"1 < 1 + 1 and 1 + 1 <= 2": {},
	} {
		wantHolds(t, true, mustRead(t, s), e, nil, nil)
	}
	for _, s := range []string{"n0 < n0", "n0 != n0", "n1 <= n0", "n1 < n0", "n0 == n1", "n3 < n2", "0 < n2"} {
		wantHolds(t, false, mustRead(t, s), numbers(least, most, -2, -1), nil, nil)
	}
}

// 11.4: texts are compared byte by byte, of whatever bytes and however long.
func TestReckonTexts(t *testing.T) {
	long := strings.Repeat("x", 2*api.MaxBytes)
	for _, a := range []string{"", "x", "X", "x ", "xy", "é", "e\u0301", "\x00", "'", "\n", "\xff", "\xff\xfe", long, long[:len(long)-1] + "y"} {
		for _, b := range []string{"", "x", "é", "\xff", "'", "\n", long} {
			e, last := api.Event{Key: "no name", Type: a, Text: b}, events(api.Event{Type: b, Text: a})
			wantHolds(t, a == b, mustRead(t, "type == text"), e, nil, nil)
			wantHolds(t, a != b, mustRead(t, "type != text"), e, nil, nil)
			wantHolds(t, true, mustRead(t, "type == a.text and a.type == text"), e, named("a"), last)
			wantHolds(t, (a == "x") == (b == "x"), mustRead(t, "(type == 'x' and a.type == 'x') or (type != 'x' and a.type != 'x')"), e, named("a"), last)
		}
	}
}

// 11.4, 11.5: and, or and not of each two truths.
func TestReckonTruths(t *testing.T) {
	for a := range int64(2) {
		for b := range int64(2) {
			e, p, q := numbers(a, b, 0, 0), a == 1, b == 1
			wantHolds(t, p, mustRead(t, "n0 == 1"), e, nil, nil)
			wantHolds(t, p && q, mustRead(t, "n0 == 1 and n1 == 1"), e, nil, nil)
			wantHolds(t, p || q, mustRead(t, "n0 == 1 or n1 == 1"), e, nil, nil)
			wantHolds(t, !p || q, mustRead(t, "not n0 == 1 or n1 == 1"), e, nil, nil)
			wantHolds(t, !(p || q), mustRead(t, "not (n0 == 1 or n1 == 1)"), e, nil, nil)
			wantHolds(t, p && !q, mustRead(t, "n0 == 1 and not n1 == 1"), e, nil, nil)
			wantHolds(t, p || q && !p, mustRead(t, "n0 == 1 or n1 == 1 and n0 == 0"), e, nil, nil)
		}
	}
}

// 11.4: each field of the event at hand, and of a stage's.
func TestReckonFields(t *testing.T) {
	e := api.Event{Key: "k", Type: "et", N: [4]int64{10, 11, 12, 13}, Text: "ex"}
	a := api.Event{Key: "k", Type: "at", N: [4]int64{20, 21, 22, 23}, Text: "ax"}
	b := api.Event{Key: "k", Type: "bt", N: [4]int64{30, 31, 32, 33}, Text: "bx"}
	for _, s := range []string{
		"n0 == 10 and n1 == 11 and n2 == 12 and n3 == 13", "type == 'et' and text == 'ex'",
		"a.n0 == 20 and a.n1 == 21 and a.n2 == 22 and a.n3 == 23", "a.type == 'at' and a.text == 'ax'",
		"b.n0 == 30 and b.n1 == 31 and b.n2 == 32 and b.n3 == 33", "b.type == 'bt' and b.text == 'bx'",
		"n0 + a.n0 == b.n0 and n3 + a.n0 == b.n3",
	} {
		wantHolds(t, true, mustRead(t, s), e, named("a", "b"), events(a, b))
		wantHolds(t, true, mustRead(t, s), e, named("b", "", "c", "a"), events(b, e, e, a))
	}
}

// 11.4: the first place of a name counts; names that are none do not matter.
func TestFirstPlace(t *testing.T) {
	x := mustRead(t, "a.n0 == 1")
	wantHolds(t, true, x, anyEvent, named("a", "a"), events(numbers(1, 0, 0, 0), numbers(2, 0, 0, 0)))
	wantHolds(t, false, x, anyEvent, named("a", "a"), events(numbers(2, 0, 0, 0), numbers(1, 0, 0, 0)))
	wantHolds(t, true, x, anyEvent, named("b", "a", "b", "a"), events(numbers(2, 0, 0, 0), numbers(1, 0, 0, 0), numbers(3, 0, 0, 0), numbers(4, 0, 0, 0)))
	wantHolds(t, true, x, anyEvent, named("", "n0", "A", "a.", "aa", "a"), events(anyEvent, anyEvent, anyEvent, anyEvent, anyEvent, numbers(1, 0, 0, 0)))
	many := slices.Repeat(named("b"), 1<<16)
	last := make([]api.Event, 1<<16+1)
	last[1<<16].N[0] = 1
	wantHolds(t, true, x, anyEvent, append(many, "a"), last)
}

// 11.4: a stage that is not among the names, on whichever side, and lists that are not as long.
func TestNoStage(t *testing.T) {
	e := anyEvent
	for _, s := range []string{
		"a.n0 < 1", "1 < a.n0", "a.type == 'x'", "not a.n0 < 1", "b.n0 < 1 or a.n0 < 1", "a.n0 < 1 and b.n0 < 1",
		"n0 == n0 or a.n0 == 1", "n0 != n0 and a.n0 == 1", "a.n0 == a.n0", "1 < (2 + 3) * (4 - a.n3)",
	} {
		for _, names := range [][]string{nil, {"b"}, {"aa"}, {"b", ""}, {"A"}, {"a "}, {"n0", "b", "c"}} {
			wantNotHolds(t, api.ErrNone, mustRead(t, s), names, make([]api.Event, len(names)))
		}
	}
	for _, s := range []string{"n0 < 1", "a.n0 < 1", "1 == 1"} {
		x := mustRead(t, s)
		wantNotHolds(t, api.ErrNone, x, named("a"), nil)
		wantNotHolds(t, api.ErrNone, x, nil, events(e))
		wantNotHolds(t, api.ErrNone, x, named("a"), events(e, e))
		wantNotHolds(t, api.ErrNone, x, named("a", "a"), events(e))
		wantNotHolds(t, api.ErrNone, x, named("a", "b"), events(e))
		wantNotHolds(t, api.ErrNone, x, named("b", "a"), events(e))
	}
	wantHolds(t, true, mustRead(t, "1 == 1"), e, nil, events())
	wantHolds(t, true, mustRead(t, "1 == 1"), e, named(), nil)
}

// 11.4: ErrExpr ahead of ErrNone; a number and a text are no condition.
func TestNoCondition(t *testing.T) {
	for _, s := range []string{"1", "n0", "'x'", "type", "a.n0", "a.text", "n0 + 1", "a.n0 * b.n0"} {
		x := mustRead(t, s)
		wantNotHolds(t, api.ErrExpr, x, nil, nil)
		wantNotHolds(t, api.ErrExpr, x, named("a"), nil)
		wantNotHolds(t, api.ErrExpr, x, nil, events(anyEvent))
		wantNotHolds(t, api.ErrExpr, x, named("a", "b"), events(anyEvent, anyEvent))
	}
	wantNotHolds(t, api.ErrExpr, nil, nil, nil)
	wantNotHolds(t, api.ErrExpr, list(op(api.ELess), field("a", 0)), nil, nil)
}

func someEvent(r *rand.Rand) api.Event {
	e := api.Event{Type: pick(r, someTexts), Text: pick(r, someTexts)}
	for i := range e.N {
		switch r.Intn(3) {
		case 0:
			e.N[i] = pick(r, someNumbers)
		case 1:
			e.N[i] = -pick(r, someNumbers) - int64(r.Intn(2))
		default:
			e.N[i] = int64(r.Uint64())
		}
	}
	return e
}

// 11.4, 11.5, R4, R7: random conditions, whose values are reckoned with numbers that have no end.
func TestRandomHolds(t *testing.T) {
	both := map[bool]int{}
	for seed := range int64(20000) {
		r := rand.New(rand.NewSource(seed))
		c := someTree(r, 3, 2+r.Intn(5))
		x := c.parts()
		names := slices.Clone(someNames)
		r.Shuffle(len(names), func(i, j int) { names[i], names[j] = names[j], names[i] })
		var last []api.Event
		for range names {
			last = append(last, someEvent(r))
		}
		e := someEvent(r)
		wasX, wasNames, wasLast := slices.Clone(x), slices.Clone(names), slices.Clone(last)
		want := c.truth(e, names, last)
		both[want]++
		wantHolds(t, want, x, e, names, last)
		wantHolds(t, want, x, e, names, last)
		if !slices.Equal(x, wasX) || !slices.Equal(names, wasNames) || !slices.Equal(last, wasLast) {
			t.Fatalf("seed %d: something was changed", seed)
		}
	}
	if both[true] < 2000 || both[false] < 2000 {
		t.Error("too few of one sort:", both)
	}
}
