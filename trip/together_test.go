package trip_test

import (
	"sync"
	"testing"

	"weaver/api"
	"weaver/trip"
)

const (
	callers = 8
	many    = 1 << 16
)

// together has callers at the same time, each with its number. None begins ahead of the others:
// else one might be done before the next.
func together(call func(caller int)) {
	var ready, done sync.WaitGroup
	ready.Add(callers)
	for caller := range callers {
		done.Go(func() {
			ready.Done()
			ready.Wait()
			call(caller)
		})
	}
	done.Wait()
}

// 9.2, 9.3: of all that fail at the same time one is the first, and its reason stays; each of them
// sees that reason behind its own call. The trips are many, since two callers seldom meet at one.
func TestFailTogether(t *testing.T) {
	var trips [many]*trip.Trip
	for i := range trips {
		trips[i], _ = trip.New(3)
	}
	var firsts [callers][many]bool
	var whys [callers][many]api.Fault
	together(func(caller int) {
		for i, x := range trips {
			firsts[caller][i], _ = x.Fail(api.ErrLong, caller)
			whys[caller][i], _ = x.Fallen()
		}
	})
	for i, x := range trips {
		count := 0
		for caller := range callers {
			if firsts[caller][i] {
				count++
				wantDown(t, x, 3, api.ErrLong, caller)
			}
			if whys[caller][i] != whys[0][i] {
				t.Errorf("Fallen() = %v and %v", whys[caller][i], whys[0][i])
			}
		}
		if count != 1 {
			t.Fatalf("%d were the first", count)
		}
	}
}
