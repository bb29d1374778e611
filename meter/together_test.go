package meter_test

import (
	"slices"
	"sync"
	"testing"

	"weaver/api"
	"weaver/meter"
)

const (
	callers = 8
	calls   = 1 << 16
)

// together has callers at the same time, each with its number. None begins ahead of the others:
// else one might be done before the next.
func together(call func(caller int)) {
	var ready, done sync.WaitGroup
	ready.Add(callers)
	for caller := range callers {
		done.Go(func() {
			ready.Done()
			ready.Wait()
			call(caller)
		})
	}
	done.Wait()
}

// 8.3: no raise is lost when many count at the same time, nor one that is joined.
func TestRaisesTogether(t *testing.T) {
	m := made(t)
	together(func(caller int) {
		own := meter.New()
		for i := range calls {
			m.Add(i%8, 1)
			own.Add(caller, 1)
		}
		m.Join(own)
	})
	var want [8]int
	for k := range want {
		want[k] = calls/8*callers + calls
	}
	wantAll(t, m, want)
}

// 8.1: at the greatest count just as many raises are refused as do not fit.
func TestRefusedTogether(t *testing.T) {
	m, room := made(t, greatest-calls), make([]int, callers)
	together(func(caller int) {
		for range calls {
			if c, e := m.Add(0, 1); e == api.OK && c <= greatest {
				room[caller]++
			}
		}
	})
	sum := 0
	for _, n := range room {
		sum += n
	}
	if sum != calls {
		t.Errorf("%d raises, want %d", sum, calls)
	}
	wantAll(t, m, [8]int{greatest})
}

// 8.1: a mark is the most of all that was said, and none of its askers sees it fall.
func TestMostTogether(t *testing.T) {
	m, most := made(t), make([]int, callers)
	together(func(caller int) {
		for range calls {
			was, _ := m.Get(3)
			n := was + 1 + caller
			said, _ := m.Most(3, n)
			is, _ := m.Get(3)
			if said < n || is < said {
				t.Errorf("Most(3, %d) = %d, then it is %d", n, said, is)
				return
			}
			most[caller] = n
		}
	})
	wantAll(t, m, [8]int{3: slices.Max(most)})
}

// 8.2: of all that would change a count from the same value one does.
func TestSwapTogether(t *testing.T) {
	m, won := made(t), make([]int, callers)
	together(func(caller int) {
		for was := range calls {
			if ok, _ := m.Swap(5, was, was+1); ok {
				won[caller]++
			}
		}
	})
	sum := 0
	for _, n := range won {
		sum += n
	}
	if c, _ := m.Get(5); c != sum {
		t.Errorf("%d swaps, but the count is %d", sum, c)
	}
}
