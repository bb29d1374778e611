package keyed_test

import (
	"math"
	"slices"
	"strings"
	"testing"

	"weaver/api"
	"weaver/group"
	"weaver/keyed"
	"weaver/pack"
)

// The chapter's example: a has the group 0 of 4, b another one.
func TestExample(t *testing.T) {
	p := somePatterns()[0]
	s := fed(t, fed(t, begun(t, p, 4), "b", "x"), "a", "x")
	a := bytesOf(t, text("a"), number(1), number(1), number(1), number(1), number(0),
		text(bytesOf(t, text("a"), text("x"), number(0), number(0), number(0), number(0), text(""))), number(0), number(1))
	if b := saved(t, s, 0, 1); b != bytesOf(t, number(4), number(1), text(a)) {
		t.Errorf("%q", b)
	}
	c := loaded(t, p, 4, saved(t, s, 0, 2), saved(t, s, 2, 4))
	if l := c.Keys(); !slices.Equal(l, []string{"a", "b"}) || c.Live() != 2 {
		t.Error(l, c.Live())
	}
}

// 17.3: the bytes, one by one: of no key, and of two, by their names' bytes, whichever came first.
func TestBytes(t *testing.T) {
	s := begun(t, read("start a: type == 'x'; within 1"), 65)
	if b := saved(t, s, 0, 65); b != "\x01\x81\x02"+"\x01\x00" {
		t.Errorf("%q", b)
	}
	fed(t, fed(t, s, "b", "xx"), "ab", "w")
	want := "\x01\x81\x02" + "\x01\x04" + "\x02\x10" + "\x02\x04ab\x01\x02\x01\x00" + "\x02\x0e" + "\x02\x02b\x01\x04\x01\x00"
	if b := saved(t, s, 0, 65); b != want {
		t.Errorf("%q, want %q", b, want)
	}
}

// 17.3: all stretches, of which each has just the keys of its groups.
func TestSaveStretches(t *testing.T) {
	p := somePatterns()[1]
	for _, groups := range []int{1, 2, 5, 16, api.MaxGroups} {
		s, m := begun(t, p, groups), &model{p: p, groups: groups}
		for _, key := range names(60) {
			m.wantFed(t, s, typed(key, "x")[0])
		}
		step := max(1, groups/16)
		for from := 0; from <= groups; from += step {
			for to := from; to <= groups; to += step {
				m.wantSaved(t, s, from, to)
			}
		}
		if b := saved(t, s, groups, groups); b != bytesOf(t, number(groups), number(0)) {
			t.Errorf("%q", b)
		}
	}
}

func wantNotSaved(t *testing.T, s *keyed.State, from, to int, want api.Errno) {
	t.Helper()
	if b, e := s.Save(from, to); b != "" || e != want {
		t.Errorf("Save(%d, %d): %q, %d, want %d", from, to, b, e, want)
	}
}

// 17.3, R5: stretches that may not be.
func TestSaveRange(t *testing.T) {
	p := somePatterns()[0]
	for _, groups := range []int{1, 4, api.MaxGroups} {
		s := fed(t, begun(t, p, groups), "a", "x")
		b := saved(t, s, 0, groups)
		numbers := []int{math.MinInt, -groups, -1, 0, 1, groups - 1, groups, groups + 1, api.MaxGroups + 1, math.MaxInt}
		for _, from := range numbers {
			for _, to := range numbers {
				if from < 0 || to < from || groups < to {
					wantNotSaved(t, s, from, to, api.ErrRange)
				} else {
					saved(t, s, from, to)
				}
			}
		}
		if saved(t, s, 0, groups) != b {
			t.Error("something changed")
		}
	}
}

// 17.3, R1, R5: a run that could not be saved stops the stretches that have it, and no others; a stretch
// that may not be is told ahead.
func TestSaveLongRun(t *testing.T) {
	p := read("start a: type == 'x'; any b+: type == 'y'; any c: type == 'z'; within 14")
	const groups = 6
	s, m := begun(t, p, groups), &model{p: p, groups: groups}
	for _, key := range names(12) {
		m.wantFed(t, s, typed(key, "x")[0])
	}
	for _, x := range typed("k", "xyyyyyyyyyy") {
		m.wantFed(t, s, x)
	}
	g, _ := group.Of("k", groups)
	for from := range groups + 1 {
		for to := from; to <= groups; to++ {
			if from <= g && g < to {
				wantNotSaved(t, s, from, to, api.ErrLong)
			}
			m.wantSaved(t, s, from, to)
		}
	}
	wantNotSaved(t, s, 0, groups+1, api.ErrRange)
	m.wantFed(t, s, typed("k", "z")[0])
	m.wantState(t, s)
}

// great is an event whose bytes are nearly as many as may be.
func great(key string, long int) api.Event {
	n := int64(math.MinInt64)
	return api.Event{Key: key, Type: "x", N: [4]int64{n, n, n, n}, Text: strings.Repeat("t", long)}
}

// 17.3: as many bytes in all as may be, and one more, of runs each of which is short enough.
func TestSaveLongAll(t *testing.T) {
	p := read("start a: type == 'x'; any b: type == 'y'; within 256")
	nearly := &model{p: p, groups: 3}
	keys := names(20)
	s := begun(t, p, 3)
	for i := 0; i < api.MaxItems && len(saved(t, s, 0, 3)) < api.MaxBytes-700; i++ {
		nearly.wantFed(t, s, great(keys[i%len(keys)], api.MaxText))
	}
	ahead := []string{saved(t, s, 0, 1), saved(t, s, 1, 3)}
	sumWith := func(long int) int {
		s := loaded(t, p, 3, ahead...)
		s.Feed(great(keys[0], min(long, api.MaxText)))
		s.Feed(great(keys[1], max(0, long-api.MaxText)))
		return wantSum(t, s, keys)
	}
	// The two texts' own lengths may take a byte more or less: some are tried around the edge.
	edge := api.MaxBytes - sumWith(0)
	seen := map[int]bool{}
	for long := edge - 8; long < edge+8; long++ {
		seen[sumWith(long)] = true
	}
	if !seen[api.MaxBytes] || !seen[api.MaxBytes+1] {
		t.Error("the edge was not come to")
	}
}

// wantSum is how many bytes all have, reckoned from those of each group; Save tells them, or that they
// are too many.
func wantSum(t *testing.T, s *keyed.State, keys []string) (sum int) {
	t.Helper()
	sum = len(bytesOf(t, number(3), number(len(keys))))
	for g := range 3 {
		l, f := pack.Decode(saved(t, s, g, g+1))
		if f != (api.Fault{}) {
			t.Fatal(f)
		}
		sum += len(bytesOf(t, l[2:]...))
	}
	b, e := s.Save(0, 3)
	if sum > api.MaxBytes && (b != "" || e != api.ErrLong) || sum <= api.MaxBytes && (len(b) != sum || e != api.OK) {
		t.Fatal(sum, len(b), e)
	}
	return sum
}
