package credit_test

import (
	"math/rand"
	"strconv"
	"strings"
	"testing"

	"weaver/api"
	"weaver/credit"
)

// model is a store by the chapter's words, of another make: it forgets nothing, neither a text nor
// how many credits were given, and counts all anew.
type model struct {
	capacity, given, taken int
	texts                  []string
}

func (m *model) there() []string { return m.texts[m.taken:] }

func (m *model) owed() int { return m.given - len(m.texts) }

// ungiven are those of the beginning, and one more of each text that was taken, less those given.
func (m *model) ungiven() int { return m.capacity + m.taken - m.given }

// walk has a store and its model, and a purse, with how many credits it is to have.
type walk struct {
	t   *testing.T
	s   *credit.Store
	m   model
	p   *credit.Purse
	has int
}

func newWalk(t *testing.T, capacity int) *walk {
	return &walk{t: t, s: store(t, capacity), m: model{capacity: capacity}, p: purse(t)}
}

func (w *walk) give(most int) {
	w.t.Helper()
	if most < 0 {
		wantGive(w.t, w.s, most, 0, api.ErrRange)
		return
	}
	n := min(most, w.m.ungiven())
	wantGive(w.t, w.s, most, n, api.OK)
	w.m.given += n
}

func (w *walk) put(text string) {
	w.t.Helper()
	if w.m.given == len(w.m.texts) {
		wantPut(w.t, w.s, text, api.ErrCredit)
		return
	}
	wantPut(w.t, w.s, text, api.OK)
	w.m.texts = append(w.m.texts, text)
}

func (w *walk) take() {
	w.t.Helper()
	if len(w.m.there()) == 0 {
		wantTake(w.t, w.s, "", api.ErrNone)
		return
	}
	wantTake(w.t, w.s, w.m.there()[0], api.OK)
	w.m.taken++
}

func (w *walk) add(n int) {
	w.t.Helper()
	switch {
	case n < 0:
		wantAdd(w.t, w.p, n, api.ErrRange)
	case n > api.MaxCredit || w.has+n > api.MaxCredit:
		wantAdd(w.t, w.p, n, api.ErrLong)
	default:
		wantAdd(w.t, w.p, n, api.OK)
		w.has += n
	}
}

func (w *walk) spend() {
	w.t.Helper()
	if w.has == 0 {
		wantSpend(w.t, w.p, api.ErrCredit)
		return
	}
	wantSpend(w.t, w.p, api.OK)
	w.has--
}

// look holds against the model what both tell of themselves.
func (w *walk) look() {
	w.t.Helper()
	first, e := "", api.ErrNone
	if l := w.m.there(); len(l) > 0 {
		first, e = l[0], api.OK
	}
	wantPeek(w.t, w.s, first, e)
	wantStore(w.t, w.s, len(w.m.there()), w.m.owed())
	wantHas(w.t, w.p, w.has)
}

// end takes all that is left, and gives all credits that there are then: with those that are owed
// they come to the capacity (20.3).
func (w *walk) end() {
	w.t.Helper()
	wantAll(w.t, w.s, w.m.there()...)
	wantGive(w.t, w.s, api.MaxCredit, w.m.capacity-w.m.owed(), api.OK)
	wantStore(w.t, w.s, 0, w.m.capacity)
}

// number is mostly up to most, and now and then far from it.
func number(r *rand.Rand, most int) int {
	switch r.Intn(20) {
	case 0:
		return belows[r.Intn(len(belows))]
	case 1:
		return aboves[r.Intn(len(aboves))]
	}
	return r.Intn(most + 1)
}

func (w *walk) step(r *rand.Rand, lean int) {
	w.t.Helper()
	switch k := r.Intn(10); {
	case k < 2:
		w.give(number(r, 1+w.m.capacity/2))
	case k < 3:
		w.add(number(r, 1+r.Intn(api.MaxCredit)))
	case k < 5:
		w.spend()
	case k < lean:
		w.put(strconv.Itoa(len(w.m.texts)) + strings.Repeat("-", r.Intn(9)))
	default:
		w.take()
	}
	w.look()
}

// 20.1 to 20.3, R7: what stores and purses tell on long walks, which lean to texts that come, and
// then to texts that go, held against the model.
func TestWalk(t *testing.T) {
	for seed := range int64(1000) {
		r := rand.New(rand.NewSource(seed))
		capacity := 1 + r.Intn(9)
		if seed%2 == 0 {
			capacity = 1 + r.Intn(api.MaxCredit)
		}
		w := newWalk(t, capacity)
		for k := range 600 {
			w.step(r, 7+k/100%2*2)
		}
		w.end()
	}
}

// calls are all that a store can be asked, with small numbers.
func calls() []func(*walk) {
	l := []func(*walk){func(w *walk) { w.put(strconv.Itoa(len(w.m.texts))) }, (*walk).take}
	for most := -1; most <= 3; most++ {
		l = append(l, func(w *walk) { w.give(most) })
	}
	return l
}

// every takes every way that so many calls more can go behind those that were chosen.
func every(t *testing.T, capacity, more int, all, chosen []func(*walk)) {
	if more == 0 {
		w := newWalk(t, capacity)
		for _, call := range chosen {
			call(w)
			w.look()
		}
		w.end()
		return
	}
	for _, call := range all {
		every(t, capacity, more-1, all, append(chosen[:len(chosen):len(chosen)], call))
	}
}

// 20.1, 20.3: all walks of five calls, over stores of the least capacities, from their beginning on
// and behind a text that has come with a credit owed.
func TestShortWalks(t *testing.T) {
	give := func(w *walk) { w.give(2) }
	put := func(w *walk) { w.put("first") }
	for capacity := 1; capacity <= 3; capacity++ {
		every(t, capacity, 5, calls(), nil)
		every(t, capacity, 5, calls(), []func(*walk){give, put})
	}
}

// pair is a sender, with credits in its purse, and a receiver, with a store; credits and texts are
// on their way between them for a while.
type pair struct {
	t        *testing.T
	s        *credit.Store
	p        *credit.Purse
	capacity int
	credits  []int
	texts    []string
	sent     int
	taken    int
}

// step does one of what the two can do; a text is sent only if the purse has a credit for it.
func (x *pair) step(r *rand.Rand) {
	x.t.Helper()
	switch r.Intn(5) {
	case 0:
		n, e := x.s.Give(r.Intn(x.capacity + 1))
		if e != api.OK {
			x.t.Fatal(n, e)
		}
		x.credits = append(x.credits, n)
	case 1:
		if len(x.credits) > 0 {
			wantAdd(x.t, x.p, x.credits[0], api.OK)
			x.credits = x.credits[1:]
		}
	case 2:
		if x.p.Spend() == api.OK {
			x.texts = append(x.texts, strconv.Itoa(x.sent))
			x.sent++
		}
	case 3:
		if len(x.texts) > 0 {
			wantPut(x.t, x.s, x.texts[0], api.OK)
			x.texts = x.texts[1:]
		}
	default:
		if x.s.Len() > 0 {
			wantTake(x.t, x.s, strconv.Itoa(x.taken), api.OK)
			x.taken++
		}
	}
}

// look sees that what is owed is what the sender has, or has sent, or will have.
func (x *pair) look() {
	x.t.Helper()
	out := x.p.Has() + len(x.texts)
	for _, n := range x.credits {
		out += n
	}
	wantStore(x.t, x.s, x.sent-x.taken-len(x.texts), out)
	if x.s.Len()+out > x.capacity {
		x.t.Fatalf("%d texts and %d credits, of a capacity of %d", x.s.Len(), out, x.capacity)
	}
}

// 20.3: a sender that spends a credit for each text is never refused, and its purse never too full.
func TestNeverRefused(t *testing.T) {
	for seed := range int64(400) {
		r := rand.New(rand.NewSource(seed))
		capacity := 1 + r.Intn(8)
		if seed%4 == 0 {
			capacity = api.MaxCredit
		}
		x := &pair{t: t, s: store(t, capacity), p: purse(t), capacity: capacity}
		for range 1000 {
			x.step(r)
			x.look()
		}
		if x.taken == 0 {
			t.Fatal("no text has come")
		}
	}
}
