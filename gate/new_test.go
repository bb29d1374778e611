package gate_test

import (
	"testing"

	"weaver/api"
	"weaver/gate"
)

// wantFresh looks at a gate as New tells it: no items, no credits given, and the next barriers.
func wantFresh(t *testing.T, g *gate.Gate, channels, capacity, first int) {
	t.Helper()
	wantBlocked(t, g, make([]bool, channels)...)
	wantLens(t, g, make([]int, channels)...)
	wantPullNone(t, g)
	for c := range channels {
		wantText(t, g, c, "a", api.ErrCredit)
		wantBarrier(t, g, c, first, api.ErrCredit)
		wantBarrier(t, g, c, first-1, api.ErrRange)
		wantBarrier(t, g, c, first+1, api.ErrRange)
		wantGive(t, g, c, api.MaxCredit+1, capacity, api.OK)
		wantBarrier(t, g, c, first, api.OK)
	}
	wantPullBarrier(t, g, first)
}

// 21.1: all numbers of channels that may be, and the edges of the other two.
func TestNew(t *testing.T) {
	for channels := 1; channels <= maxChannels; channels++ {
		for _, capacity := range []int{1, 2, api.MaxCredit - 1, api.MaxCredit} {
			for _, first := range []int{1, 2, 1000, api.MaxSeq - 1, api.MaxSeq} {
				wantFresh(t, newGate(t, channels, capacity, first), channels, capacity, first)
			}
		}
	}
}

// 21.1: all capacities that may be.
func TestCapacities(t *testing.T) {
	for capacity := 1; capacity <= api.MaxCredit; capacity++ {
		wantFresh(t, newGate(t, 2, capacity, 7), 2, capacity, 7)
	}
}

// 21.1, R5, P1: what is wrong in one of the three is refused, whatever the others are.
func TestNewWrong(t *testing.T) {
	for _, wrong := range append(append([]int{0}, belows...), aboves...) {
		for _, right := range []int{1, 64} {
			wantNoGate(t, wrong, right, right)
			wantNoGate(t, right, wrong, right)
			wantNoGate(t, right, right, wrong)
			wantNoGate(t, wrong, wrong, right)
			wantNoGate(t, right, wrong, wrong)
			wantNoGate(t, wrong, right, wrong)
			wantNoGate(t, wrong, wrong, wrong)
		}
	}
	for _, channels := range []int{maxChannels + 1, api.MaxCredit, api.MaxSeq} {
		wantNoGate(t, channels, 1, 1)
	}
	for _, capacity := range []int{api.MaxCredit + 1, 2 * api.MaxCredit, api.MaxSeq} {
		wantNoGate(t, 1, capacity, 1)
	}
}

// 21.1, R5, P1: a channel that there is not is ErrGate in each call, ahead of all else that is wrong,
// and changes nothing.
func TestNoChannel(t *testing.T) {
	for _, channels := range []int{1, 2, maxChannels} {
		g := given(t, channels, 1, 5)
		lay(t, g, 0, 5, "a")
		for _, c := range append(append([]int{channels, channels + 1, 255, 256}, belows...), aboves...) {
			for _, n := range []int{-1, 0, 1, 5} {
				wantGive(t, g, c, n, 0, api.ErrGate)
				wantBarrier(t, g, c, n, api.ErrGate)
			}
			for _, text := range []string{"", "b", long} {
				wantText(t, g, c, text, api.ErrGate)
			}
			wantLen(t, g, c, 0, api.ErrGate)
		}
		lens := make([]int, channels)
		lens[0] = 1
		wantLens(t, g, lens...)
		wantPullText(t, g, 0, "a")
		wantPullNone(t, g)
	}
}

// 21.1: what one gate has is nothing to another.
func TestGatesApart(t *testing.T) {
	a, b := newGate(t, 2, 1, 1), newGate(t, 2, 1, 1)
	wantGive(t, a, 0, 1, 1, api.OK)
	wantText(t, a, 0, "a", api.OK)
	wantFresh(t, b, 2, 1, 1)
	wantLens(t, a, 1, 0)
	wantPullText(t, a, 0, "a")
}
