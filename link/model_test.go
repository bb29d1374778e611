package link_test

import (
	"testing"

	"weaver/api"
	"weaver/link"
)

// sending is a sender by the chapter's words, of another make: it forgets no text.
type sending struct {
	epoch, window, patience int
	texts                   []string
	ticks                   map[int][]int // of each number the ticks at which it was sent
	heard                   int           // all texts below it are acknowledged
	called                  []int         // the ticks of the calls that were not refused
}

func (m *sending) push(text string) api.Errno {
	if len(text) > longest || len(m.texts)-m.heard >= api.MaxItems || len(m.texts) > api.MaxSeq {
		return api.ErrLong
	}
	m.texts = append(m.texts, text)
	return api.OK
}

func (m *sending) isDue(n, now int) bool {
	if n < m.heard || n >= m.heard+m.window {
		return false
	}
	for _, tick := range m.ticks[n] {
		if now-tick < m.patience {
			return false
		}
	}
	return true
}

func (m *sending) due(now int) (l []note, e api.Errno) {
	if now < 0 || now > api.MaxTicks {
		return nil, api.ErrRange
	}
	for _, tick := range m.called {
		if now < tick {
			return nil, api.ErrRange
		}
	}
	m.called = append(m.called, now)
	for n, text := range m.texts {
		if m.isDue(n, now) {
			m.ticks[n] = append(m.ticks[n], now)
			l = append(l, note{m.epoch, n, text})
		}
	}
	return l, api.OK
}

func (m *sending) hear(p note) api.Errno {
	if p.epoch != m.epoch {
		return api.ErrStale
	}
	if p.number > len(m.texts) {
		return api.ErrRange
	}
	m.heard = max(m.heard, p.number)
	return api.OK
}

// taking is a receiver by the chapter's words: it forgets no text either.
type taking struct {
	epoch, window int
	got           map[int]string
	told          []string
}

func (m *taking) take(p note) (texts []string, ack string, e api.Errno) {
	if p.epoch != m.epoch {
		return nil, "", api.ErrStale
	}
	ahead := p.number - len(m.told)
	_, has := m.got[p.number]
	if ahead >= 0 && ahead < m.window && !has {
		m.got[p.number] = p.text
	}
	for {
		text, ok := m.got[len(m.told)]
		if !ok {
			return texts, ackOf(m.epoch, len(m.told)), api.OK
		}
		m.told, texts = append(m.told, text), append(texts, text)
	}
}

// note is what a packet on its way says.
type note struct {
	epoch, number int
	text          string
}

// walk has a link with its model, the clock, and what is on its way to both sides.
type walk struct {
	t          *testing.T
	s          *link.Sender
	r          *link.Receiver
	sm         *sending
	rm         *taking
	now        int
	data, acks []note
}

func newWalk(t *testing.T, epoch, sends, takes, patience int) *walk {
	t.Helper()
	return &walk{t: t,
		s:  sender(t, epoch, sends, patience),
		r:  receiver(t, epoch, takes),
		sm: &sending{epoch: epoch, window: sends, patience: patience, ticks: map[int][]int{}},
		rm: &taking{epoch: epoch, window: takes, got: map[int]string{}},
	}
}

func (w *walk) push(text string) {
	w.t.Helper()
	wantPush(w.t, w.s, text, w.sm.push(text))
}

// due puts what is due on its way.
func (w *walk) due(now int) {
	w.t.Helper()
	l, e := w.sm.due(now)
	if e != api.OK {
		wantNoDue(w.t, w.s, now)
		return
	}
	w.now = now
	var want []string
	for _, p := range l {
		want = append(want, dataOf(p.epoch, p.number, p.text))
	}
	wantDue(w.t, w.s, now, want...)
	w.data = append(w.data, l...)
}

// take gives a packet to the receiver, and puts the acknowledgement on its way.
func (w *walk) take(p note) {
	w.t.Helper()
	b := dataOf(p.epoch, p.number, p.text)
	texts, ack, e := w.rm.take(p)
	if e != api.OK {
		wantNoTake(w.t, w.r, b, e)
		return
	}
	wantTake(w.t, w.r, b, ack, texts...)
	w.acks = append(w.acks, note{epoch: w.rm.epoch, number: len(w.rm.told)})
}

func (w *walk) hear(p note) {
	w.t.Helper()
	wantHeard(w.t, w.s, ackOf(p.epoch, p.number), w.sm.hear(p))
}

// look holds against the model what both sides tell of themselves.
func (w *walk) look() {
	w.t.Helper()
	wantLeft(w.t, w.s, len(w.sm.texts)-w.sm.heard)
	wantNext(w.t, w.r, len(w.rm.told))
}
