package link_test

import (
	"math/rand"
	"slices"
	"strconv"
	"strings"
	"testing"

	"weaver/api"
)

// pull takes a packet from a way.
func pull(way *[]note, i int) note {
	p := (*way)[i]
	*way = append(append([]note{}, (*way)[:i]...), (*way)[i+1:]...)
	return p
}

func (w *walk) takeAt(i int) {
	w.t.Helper()
	if i < len(w.data) {
		w.take(pull(&w.data, i))
	}
}

func (w *walk) hearAt(i int) {
	w.t.Helper()
	if i < len(w.acks) {
		w.hear(pull(&w.acks, i))
	}
}

// tamper loses or copies a packet of a way.
func tamper(way *[]note, i int, lose bool) {
	if i >= len(*way) {
		return
	}
	if lose {
		pull(way, i)
	} else {
		*way = append(*way, (*way)[i])
	}
}

// step does one thing that a network, or who uses the link, may do.
func (w *walk) step(r *rand.Rand) {
	w.t.Helper()
	data, acks := r.Intn(len(w.data)+1), r.Intn(len(w.acks)+1)
	switch r.Intn(16) {
	case 0, 1, 2, 3:
		w.push("text" + strconv.Itoa(len(w.sm.texts)))
	case 4, 5:
		w.due(w.now + r.Intn(w.sm.patience+2))
	case 6:
		w.due(w.now - r.Intn(3))
	case 7, 8, 9, 10:
		w.takeAt(data)
	case 11:
		w.hearAt(acks)
	case 12:
		tamper(&w.data, data, true)
	case 13:
		tamper(&w.data, data, false)
	case 14:
		tamper(&w.acks, acks, true)
	case 15:
		tamper(&w.acks, acks, false)
	}
	w.look()
}

// forge hands in what no link of this epoch sent, or not with that number.
func (w *walk) forge(r *rand.Rand) {
	w.t.Helper()
	p := note{epoch: w.sm.epoch, text: "forged" + strconv.Itoa(r.Int())}
	if r.Intn(4) == 0 {
		p.epoch = r.Intn(3)
	}
	if r.Intn(2) == 0 {
		p.number = max(0, len(w.rm.told)-2+r.Intn(w.rm.window+4))
		w.take(p)
	} else {
		p.number = max(0, w.sm.heard-2+r.Intn(len(w.sm.texts)-w.sm.heard+5))
		w.hear(p)
	}
	w.look()
}

// smallOrNot is from 1 to most, mostly near 1.
func smallOrNot(r *rand.Rand, most int) int {
	if r.Intn(3) == 0 {
		return 1 + r.Intn(most)
	}
	return 1 + r.Intn(5)
}

func anyWalk(t *testing.T, r *rand.Rand) *walk {
	t.Helper()
	epoch := r.Intn(3)
	if epoch == 2 {
		epoch = api.MaxEpoch
	}
	return newWalk(t, epoch, smallOrNot(r, maxStretch), smallOrNot(r, maxStretch), smallOrNot(r, maxStretch))
}

// wantPrefix asks of what was told that it is what was pushed, from the first text on.
func (w *walk) wantPrefix() {
	w.t.Helper()
	n := len(w.rm.told)
	if n > len(w.sm.texts) || !slices.Equal(w.rm.told, w.sm.texts[:n]) {
		w.t.Fatalf("told are %.200q, pushed %.200q", w.rm.told, w.sm.texts)
	}
}

// 19.1 to 19.5, R7: what both sides tell on long walks, held against the chapter's words; told are
// the texts that were pushed, from the first on, whatever was lost, copied and turned about.
func TestWalk(t *testing.T) {
	for seed := range int64(1500) {
		r := rand.New(rand.NewSource(seed))
		w := anyWalk(t, r)
		for range 200 {
			w.step(r)
			w.wantPrefix()
		}
	}
}

// 19.2 to 19.4: the same, with packets between that the other side did not send.
func TestForgedWalk(t *testing.T) {
	for seed := range int64(1500) {
		r := rand.New(rand.NewSource(seed))
		w := anyWalk(t, r)
		for range 200 {
			if r.Intn(4) == 0 {
				w.forge(r)
			} else {
				w.step(r)
			}
		}
	}
}

// calls are all that can be done with a link, with the first packets of both ways.
func calls() []func(*walk) {
	return []func(*walk){
		func(w *walk) { w.push(strconv.Itoa(len(w.sm.texts))) },
		func(w *walk) { w.due(w.now) },
		func(w *walk) { w.due(w.now + 1) },
		func(w *walk) { w.due(w.now + 2) },
		func(w *walk) { w.takeAt(0) },
		func(w *walk) { w.takeAt(1) },
		func(w *walk) { tamper(&w.data, 0, true) },
		func(w *walk) { tamper(&w.data, 0, false) },
		func(w *walk) { w.hearAt(0) },
		func(w *walk) { w.hearAt(1) },
	}
}

// every takes every way that so many calls more can go behind those that were chosen.
func every(t *testing.T, more int, all, chosen []func(*walk)) {
	if more == 0 {
		w := newWalk(t, 1, 2, 2, 2)
		for _, call := range chosen {
			call(w)
			w.look()
			w.wantPrefix()
		}
		return
	}
	for _, call := range all {
		every(t, more-1, all, append(chosen[:len(chosen):len(chosen)], call))
	}
}

// 19.1 to 19.5: all walks of five calls, behind three texts of which two were sent.
func TestShortWalks(t *testing.T) {
	all := calls()
	every(t, 5, all, []func(*walk){all[0], all[0], all[0], all[1]})
}

// round is one of 19.6: all that is due arrives, in order, or (turned) about, and the last
// acknowledgement.
func (w *walk) round(r *rand.Rand, turned bool) {
	w.t.Helper()
	w.data, w.acks = nil, nil
	w.due(w.now + w.sm.patience)
	for len(w.data) > 0 {
		i := 0
		if turned {
			i = r.Intn(len(w.data))
		}
		w.takeAt(i)
	}
	if len(w.acks) > 0 {
		w.hear(w.acks[len(w.acks)-1])
	}
	w.look()
}

// 19.6: whatever came ahead, in each round the first W texts that are left are told and acknowledged.
func TestRounds(t *testing.T) {
	for seed := range int64(1000) {
		r := rand.New(rand.NewSource(seed))
		w := anyWalk(t, r)
		for range r.Intn(200) {
			w.step(r)
		}
		for range r.Intn(600) {
			w.push(strings.Repeat("m", r.Intn(4)))
		}
		for w.s.Left() > 0 {
			want := min(w.sm.heard+w.sm.window, len(w.sm.texts))
			w.round(r, w.rm.window >= w.sm.window && r.Intn(2) == 0)
			if w.sm.heard != want || w.r.Next() < want {
				t.Fatalf("seed %d: %d are acknowledged, %d told, want %d", seed, w.sm.heard, w.r.Next(), want)
			}
			w.wantPrefix()
		}
		w.round(r, false)
		if len(w.rm.told) != len(w.sm.texts) {
			t.Fatalf("seed %d: %d of %d are told", seed, len(w.rm.told), len(w.sm.texts))
		}
	}
}

// 19.5: packets of another epoch's link, whatever they tell, are not let in.
func TestOtherEpoch(t *testing.T) {
	old, w := newWalk(t, 1, 8, 8, 1), newWalk(t, 2, 8, 8, 1)
	for n := range 8 {
		old.push("old" + strconv.Itoa(n))
		w.push("new" + strconv.Itoa(n))
	}
	old.due(0)
	w.due(0)
	for len(old.data) > 0 {
		p := pull(&old.data, 0)
		old.take(p)
		w.take(p)
		w.hear(old.acks[len(old.acks)-1])
		w.look()
	}
	wantLeft(t, w.s, 8)
	wantNext(t, w.r, 0)
	w.round(rand.New(rand.NewSource(2)), true)
	w.wantPrefix()
	wantLeft(t, w.s, 0)
}
