package meter_test

import (
	"math"
	"testing"

	"weaver/api"
	"weaver/meter"
)

const greatest = 1 << 62

// wrongCounts are none; wrongKs number none.
var (
	wrongCounts = []int{math.MinInt, math.MinInt + 1, -greatest - 1, -greatest, math.MinInt32, -2, -1, greatest + 1, greatest + 2, math.MaxInt - 1, math.MaxInt}
	wrongKs     = []int{math.MinInt, math.MinInt + 1, math.MinInt32, -8, -1, 8, 9, 16, 1 << 8, 1 << 31, 1 << 32, 1<<32 + 1, greatest, math.MaxInt - 1, math.MaxInt}
	anyCounts   = []int{0, 1, 2, 7, 8, 9, 255, 256, 1<<31 - 1, 1 << 31, 1<<32 - 1, 1 << 32, 1<<61 - 1, 1 << 61, 1<<61 + 1, greatest - 2, greatest - 1, greatest}
)

// made is a new meter that has these counts, each in one raise.
func made(t *testing.T, counts ...int) *meter.Meter {
	t.Helper()
	m := meter.New()
	if m == nil {
		t.Fatal("New() = nil")
	}
	for k, n := range counts {
		wantAdd(t, m, k, n, n)
	}
	return m
}

func wantAdd(t *testing.T, m *meter.Meter, k, n, count int) {
	t.Helper()
	if c, e := m.Add(k, n); c != count || e != api.OK {
		t.Errorf("Add(%d, %d) = %d, %d, want %d", k, n, c, e, count)
	}
}

func wantMost(t *testing.T, m *meter.Meter, k, n, count int) {
	t.Helper()
	if c, e := m.Most(k, n); c != count || e != api.OK {
		t.Errorf("Most(%d, %d) = %d, %d, want %d", k, n, c, e, count)
	}
}

func wantSwap(t *testing.T, m *meter.Meter, k, was, will int, swaps bool) {
	t.Helper()
	if ok, e := m.Swap(k, was, will); ok != swaps || e != api.OK {
		t.Errorf("Swap(%d, %d, %d) = %v, %d, want %v", k, was, will, ok, e, swaps)
	}
}

// wantNotAdd and its like hold all counts against what they were ahead of what is refused.
func wantNotAdd(t *testing.T, m *meter.Meter, k, n int, want api.Errno) {
	t.Helper()
	all := m.All()
	if c, e := m.Add(k, n); c != 0 || e != want {
		t.Errorf("Add(%d, %d) = %d, %d, want 0, %d", k, n, c, e, want)
	}
	wantAll(t, m, all)
}

func wantNotMost(t *testing.T, m *meter.Meter, k, n int, want api.Errno) {
	t.Helper()
	all := m.All()
	if c, e := m.Most(k, n); c != 0 || e != want {
		t.Errorf("Most(%d, %d) = %d, %d, want 0, %d", k, n, c, e, want)
	}
	wantAll(t, m, all)
}

func wantNotSwap(t *testing.T, m *meter.Meter, k, was, will int, want api.Errno) {
	t.Helper()
	all := m.All()
	if ok, e := m.Swap(k, was, will); ok || e != want {
		t.Errorf("Swap(%d, %d, %d) = %v, %d, want false, %d", k, was, will, ok, e, want)
	}
	wantAll(t, m, all)
}

// wantAll asks for all counts at once and one by one.
func wantAll(t *testing.T, m *meter.Meter, counts [8]int) {
	t.Helper()
	if all := m.All(); all != counts {
		t.Errorf("All() = %v, want %v", all, counts)
	}
	for k, n := range counts {
		if c, e := m.Get(k); c != n || e != api.OK {
			t.Errorf("Get(%d) = %d, %d, want %d", k, c, e, n)
		}
	}
}

// 8.1, 8.2: the chapter's example.
func TestExample(t *testing.T) {
	m := made(t)
	wantAdd(t, m, 0, 5, 5)
	wantMost(t, m, 0, 3, 5)
	wantMost(t, m, 0, 9, 9)
	wantSwap(t, m, 0, 9, 1, true)
	wantAll(t, m, [8]int{1})
	wantJoin(t, m, m, [8]int{2})
}

// 8.1: all counts are 0 at first, of each meter, whatever others have counted.
func TestNew(t *testing.T) {
	wantAll(t, made(t), [8]int{})
	m := made(t, 1, 2, 3, 4, 5, 6, 7, 8)
	o := made(t)
	wantAll(t, o, [8]int{})
	wantAdd(t, o, 3, 9, 9)
	wantAll(t, m, [8]int{1, 2, 3, 4, 5, 6, 7, 8})
	wantAll(t, o, [8]int{3: 9})
}

// 8.1: each count is raised for itself, by any number that is not below 0.
func TestAdd(t *testing.T) {
	m := made(t)
	var counts [8]int
	for round := range 9 {
		for k := range counts {
			n := round * (k + 1)
			counts[k] += n
			wantAdd(t, m, k, n, counts[k])
			wantAll(t, m, counts)
		}
	}
	for k := range counts {
		wantAdd(t, m, k, 0, counts[k])
	}
	wantAll(t, m, counts)
}

// 8.1: all sums of two counts, up to the greatest one and beyond it.
func TestAddEdges(t *testing.T) {
	for k := range 8 {
		for _, was := range anyCounts {
			for _, n := range anyCounts {
				var counts [8]int
				counts[k] = was
				m := made(t, counts[:]...)
				if was <= greatest-n {
					wantAdd(t, m, k, n, was+n)
				} else {
					wantNotAdd(t, m, k, n, api.ErrLong)
				}
			}
		}
	}
}

// 8.1: what is raised by may be more than a count may be: then the sum is, too.
func TestAddTooMuch(t *testing.T) {
	for _, was := range anyCounts {
		m := made(t, was)
		for _, n := range wrongCounts {
			if n < 0 {
				wantNotAdd(t, m, 0, n, api.ErrRange)
			} else {
				wantNotAdd(t, m, 0, n, api.ErrLong)
			}
		}
	}
}

// 8.1: a mark is never lowered.
func TestMost(t *testing.T) {
	for k := range 8 {
		for _, was := range anyCounts {
			for _, n := range anyCounts {
				var counts [8]int
				counts[k] = was
				m := made(t, counts[:]...)
				counts[k] = max(was, n)
				wantMost(t, m, k, n, counts[k])
				wantAll(t, m, counts)
			}
		}
	}
}

// 8.1: marks that may not be, at each count.
func TestWrongMost(t *testing.T) {
	for _, was := range anyCounts {
		m := made(t, was)
		for _, n := range wrongCounts {
			wantNotMost(t, m, 0, n, api.ErrRange)
		}
	}
}

// 8.2: a count is changed only if it is what it is said to be; it may fall, and stay.
func TestSwap(t *testing.T) {
	for k := range 8 {
		for _, is := range anyCounts {
			for _, was := range anyCounts {
				for _, will := range anyCounts {
					var counts [8]int
					counts[k] = is
					m := made(t, counts[:]...)
					wantSwap(t, m, k, was, will, is == was)
					if is == was {
						counts[k] = will
					}
					wantAll(t, m, counts)
				}
			}
		}
	}
}

// 8.2: numbers that are no counts, one or both of them; a false without an error is another thing.
func TestWrongSwap(t *testing.T) {
	for _, is := range anyCounts {
		m := made(t, is)
		for _, wrong := range wrongCounts {
			for _, right := range anyCounts {
				wantNotSwap(t, m, 0, wrong, right, api.ErrRange)
				wantNotSwap(t, m, 0, right, wrong, api.ErrRange)
			}
			for _, other := range wrongCounts {
				wantNotSwap(t, m, 0, wrong, other, api.ErrRange)
			}
		}
	}
}

// 8.1, R1, P1: a count that there is not comes ahead of all else that is wrong.
func TestNoCount(t *testing.T) {
	m := made(t, 0, 1, 2, 3, 4, 5, 6, greatest)
	for _, k := range wrongKs {
		if c, e := m.Get(k); c != 0 || e != api.ErrNone {
			t.Errorf("Get(%d) = %d, %d, want 0, %d", k, c, e, api.ErrNone)
		}
		for _, n := range append(wrongCounts, anyCounts...) {
			wantNotAdd(t, m, k, n, api.ErrNone)
			wantNotMost(t, m, k, n, api.ErrNone)
			wantNotSwap(t, m, k, n, n, api.ErrNone)
			wantNotSwap(t, m, k, 0, n, api.ErrNone)
			wantNotSwap(t, m, k, n, 0, api.ErrNone)
		}
	}
}

// R4: an answer that is written over changes no count.
func TestAllIsNew(t *testing.T) {
	m := made(t, 1, 2, 3, 4, 5, 6, 7, 8)
	all := m.All()
	for k := range all {
		all[k] = -7
	}
	wantAll(t, m, [8]int{1, 2, 3, 4, 5, 6, 7, 8})
}
