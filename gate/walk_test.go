package gate_test

import (
	"math/rand"
	"slices"
	"strings"
	"testing"

	"weaver/api"
)

// anyChannel is mostly one that there is.
func anyChannel(r *rand.Rand, channels int) int {
	switch r.Intn(40) {
	case 0:
		return belows[r.Intn(len(belows))]
	case 1:
		return channels + r.Intn(3)*r.Intn(api.MaxCredit)
	}
	return r.Intn(channels)
}

// anyOff is how far a barrier's number is off: mostly not at all.
func anyOff(r *rand.Rand) int {
	if r.Intn(5) > 0 {
		return 0
	}
	return r.Intn(5) - 2
}

// step does something: the greater lean is, the more pulls, and the greater barriers, the more of
// these among the items.
func (w *walk) step(r *rand.Rand, lean, barriers int) {
	w.t.Helper()
	c := anyChannel(r, len(w.l))
	switch k := r.Intn(20); {
	case k < lean:
		w.pull()
	case k < lean+5:
		w.give(c, r.Intn(w.capacity+2)-1)
	case r.Intn(20) < barriers:
		w.barrier(c, anyOff(r))
	case r.Intn(100) == 0:
		w.text(c, long)
	default:
		w.some(c)
	}
}

// 21.1 to 21.5, R5, R7: what gates tell on long walks, which lean to items that come, and then to
// items that go, held against the model.
func TestWalk(t *testing.T) {
	for seed := range int64(600) {
		r := rand.New(rand.NewSource(seed))
		w := newWalk(t, 1+r.Intn(5), 1+r.Intn(8), 1+r.Intn(api.MaxSeq))
		barriers := r.Intn(12)
		for k := range 600 {
			w.step(r, 4+k/100%2*7, barriers)
			w.look()
		}
		w.end()
	}
}

// 21.3 to 21.5: walks over many channels, of which each gets some texts and a barrier a round, in
// another order each time.
func TestWide(t *testing.T) {
	for seed := range int64(12) {
		r := rand.New(rand.NewSource(seed))
		channels := maxChannels - int(seed)%3*31
		w := givenWalk(t, channels, 4+r.Intn(20), 1)
		for range 12 {
			for _, c := range r.Perm(channels) {
				w.give(c, r.Intn(9))
				for range r.Intn(4) {
					w.some(c)
				}
				w.barrier(c, 0)
				for range r.Intn(8) {
					w.pull()
				}
			}
			w.look()
		}
		w.end()
		if !slices.ContainsFunc(w.told, func(x told) bool { return x.barrier > 2 }) {
			t.Fatal("few barriers were told")
		}
	}
}

// calls are all that a gate of two channels can be asked, but wrong things.
func calls() []func(*walk) {
	l := []func(*walk){(*walk).pull}
	for c := range 2 {
		l = append(l, func(w *walk) { w.give(c, 1) }, func(w *walk) { w.some(c) }, func(w *walk) { w.barrier(c, 0) })
	}
	return l
}

// every takes every way that so many calls more can go behind those that were chosen.
func every(begin func() *walk, more int, all, chosen []func(*walk)) {
	if more == 0 {
		w := begin()
		for _, call := range chosen {
			call(w)
		}
		w.look()
		w.end()
		return
	}
	for _, call := range all {
		every(begin, more-1, all, append(chosen[:len(chosen):len(chosen)], call))
	}
}

// 21.1 to 21.5: all walks of five calls, from the beginning on, with credits, and with items there.
func TestShortWalks(t *testing.T) {
	for capacity := 1; capacity <= 2; capacity++ {
		every(func() *walk { return newWalk(t, 2, capacity, 1) }, 4, calls(), nil)
		every(func() *walk { return givenWalk(t, 2, capacity, 1) }, 5, calls(), nil)
	}
	every(func() *walk {
		w := givenWalk(t, 2, 3, 8)
		w.some(0)
		w.barrier(1, 0)
		w.some(1)
		return w
	}, 5, calls(), nil)
}

// rows are all rows of so many items, each a text or a barrier ("a" or "|").
func rows(many int) []string {
	if many == 0 {
		return []string{""}
	}
	var l []string
	for _, s := range rows(many - 1) {
		l = append(l, s+"a", s+"|")
	}
	return l
}

// 21.3, 21.4: all pairs of rows of up to four items on two channels, pulled to their end.
func TestAllRows(t *testing.T) {
	for many := range 25 {
		for _, a := range rows(many % 5) {
			for _, b := range rows(many / 5) {
				w := givenWalk(t, 2, 4, 1)
				for c, row := range []string{a, b} {
					for _, x := range strings.Split(row, "") {
						if x == "|" {
							w.barrier(c, 0)
						} else {
							w.some(c)
						}
					}
				}
				w.end()
			}
		}
	}
}
