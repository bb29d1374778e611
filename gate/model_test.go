package gate_test

import (
	"slices"
	"strconv"
	"strings"
	"testing"

	"weaver/api"
	"weaver/gate"
)

// sent is an item that came on a channel: a text, or (barrier above 0) a barrier.
type sent struct {
	text    string
	barrier int
}

// channel is one by the chapter's words, of another make: it forgets nothing, neither an item nor
// how many credits were given, and counts all anew.
type channel struct {
	items         []sent
	given, pulled int
}

// barriers is how many came.
func (c *channel) barriers() int {
	n := 0
	for _, x := range c.items {
		if x.barrier > 0 {
			n++
		}
	}
	return n
}

func (c *channel) there() []sent { return c.items[c.pulled:] }

func (c *channel) blocked() bool { return len(c.there()) > 0 && c.there()[0].barrier > 0 }

func (c *channel) open() bool { return len(c.there()) > 0 && c.there()[0].barrier == 0 }

// told is one thing that Pull told.
type told struct {
	channel, barrier int
	text             string
}

// walk has a gate and its model, with all that it told, and how many times each channel that is open
// was passed over since it was so.
type walk struct {
	t               *testing.T
	g               *gate.Gate
	l               []channel
	capacity, first int
	told            []told
	passed          []int
	texts           int
}

func newWalk(t *testing.T, channels, capacity, first int) *walk {
	return &walk{t: t, g: newGate(t, channels, capacity, first), l: make([]channel, channels), capacity: capacity, first: first, passed: make([]int, channels)}
}

// givenWalk is one whose credits are all given.
func givenWalk(t *testing.T, channels, capacity, first int) *walk {
	w := newWalk(t, channels, capacity, first)
	for c := range channels {
		w.give(c, capacity)
	}
	return w
}

func (w *walk) is(c int) bool { return 0 <= c && c < len(w.l) }

func (w *walk) give(c, most int) {
	w.t.Helper()
	switch {
	case !w.is(c):
		wantGive(w.t, w.g, c, most, 0, api.ErrGate)
	case most < 0:
		wantGive(w.t, w.g, c, most, 0, api.ErrRange)
	default:
		n := min(most, w.capacity+w.l[c].pulled-w.l[c].given)
		wantGive(w.t, w.g, c, most, n, api.OK)
		w.l[c].given += n
	}
}

// owed is whether a credit of the channel was given for which no item has come.
func (w *walk) owed(c int) bool { return len(w.l[c].items) < w.l[c].given }

func (w *walk) text(c int, text string) {
	w.t.Helper()
	switch {
	case !w.is(c):
		wantText(w.t, w.g, c, text, api.ErrGate)
	case len(text) > maxText:
		wantText(w.t, w.g, c, text, api.ErrLong)
	case !w.owed(c):
		wantText(w.t, w.g, c, text, api.ErrCredit)
	default:
		wantText(w.t, w.g, c, text, api.OK)
		w.l[c].items = append(w.l[c].items, sent{text: text})
	}
}

// some is a text as no other is.
func (w *walk) some(c int) {
	w.t.Helper()
	w.texts++
	w.text(c, strconv.Itoa(w.texts)+strings.Repeat("-", w.texts%5))
}

// barrier puts one whose number is off by so many.
func (w *walk) barrier(c, off int) {
	w.t.Helper()
	if !w.is(c) {
		wantBarrier(w.t, w.g, c, w.first+off, api.ErrGate)
		return
	}
	n := w.first + w.l[c].barriers() + off
	switch {
	case off != 0:
		wantBarrier(w.t, w.g, c, n, api.ErrRange)
	case !w.owed(c):
		wantBarrier(w.t, w.g, c, n, api.ErrCredit)
	default:
		wantBarrier(w.t, w.g, c, n, api.OK)
		w.l[c].items = append(w.l[c].items, sent{barrier: n})
	}
}

// turn is the open channel that comes first behind the one from which the last text was told; -1, if
// none is open.
func (w *walk) turn() int {
	last := -1
	for _, x := range w.told {
		if x.barrier == 0 {
			last = x.channel
		}
	}
	for c := last + 1; c < len(w.l); c++ {
		if w.l[c].open() {
			return c
		}
	}
	for c := 0; c <= last; c++ {
		if w.l[c].open() {
			return c
		}
	}
	return -1
}

func (w *walk) aligned() bool {
	return !slices.ContainsFunc(w.l, func(c channel) bool { return !c.blocked() })
}

func (w *walk) pull() {
	w.t.Helper()
	if w.aligned() {
		n := w.l[0].there()[0].barrier
		wantPullBarrier(w.t, w.g, n)
		w.told = append(w.told, told{-1, n, ""})
		for c := range w.l {
			w.l[c].pulled++
		}
		return
	}
	c := w.turn()
	if c < 0 {
		wantPull(w.t, w.g, 0, "", 0, api.ErrNone)
		return
	}
	text := w.l[c].there()[0].text
	w.pass(c)
	wantPullText(w.t, w.g, c, text)
	w.told = append(w.told, told{c, 0, text})
	w.l[c].pulled++
}

// pass sees that no channel is passed over too many times (21.5) when a text is told from one.
func (w *walk) pass(from int) {
	w.t.Helper()
	for c := range w.l {
		if c == from || !w.l[c].open() {
			w.passed[c] = 0
			continue
		}
		w.passed[c]++
		if w.passed[c] >= len(w.l) {
			w.t.Fatalf("the channel %d was passed over %d times", c, w.passed[c])
		}
	}
}

// look holds against the model what the gate tells of itself.
func (w *walk) look() {
	w.t.Helper()
	blocked := make([]bool, len(w.l))
	for c := range w.l {
		wantLen(w.t, w.g, c, len(w.l[c].there()), api.OK)
		blocked[c] = w.l[c].blocked()
	}
	wantBlocked(w.t, w.g, blocked...)
}

// end pulls all that is left and comes out, and looks at all that was told.
func (w *walk) end() {
	w.t.Helper()
	for w.aligned() || w.turn() >= 0 {
		w.pull()
	}
	w.look()
	wantPullNone(w.t, w.g)
	w.wantAligned()
	for c := range w.l {
		owed := w.l[c].given - len(w.l[c].items)
		wantGive(w.t, w.g, c, api.MaxCredit, w.capacity-owed-len(w.l[c].there()), api.OK)
	}
}

// wantAligned sees that of each channel just the texts were told that stood between its barriers, in
// their order, between the same barriers (21.4).
func (w *walk) wantAligned() {
	w.t.Helper()
	for c := range w.l {
		var got []sent
		for _, x := range w.told {
			if x.channel == c || x.barrier > 0 {
				got = append(got, sent{x.text, x.barrier})
			}
		}
		if want := w.l[c].items[:w.l[c].pulled]; !slices.Equal(got, want) {
			w.t.Fatalf("of the channel %d are told %v, want %v", c, got, want)
		}
	}
}
