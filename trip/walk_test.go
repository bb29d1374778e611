package trip_test

import (
	"math/big"
	"math/rand"
	"testing"

	"weaver/api"
	"weaver/trip"
)

// model is a trip by the chapter's words, with numbers that know no bound.
type model struct {
	room, used *big.Int
	reasons    []api.Fault
}

func newModel(room int) *model {
	return &model{room: number(room), used: number(0)}
}

func number(n int) *big.Int { return big.NewInt(int64(n)) }

func (m *model) left() *big.Int { return new(big.Int).Sub(m.room, m.used) }

func (m *model) fail(code api.Errno, at int) (bool, api.Errno) {
	if code == api.OK {
		return false, api.ErrRange
	}
	m.reasons = append(m.reasons, api.Fault{At: at, Code: code})
	return len(m.reasons) == 1, api.OK
}

func (m *model) use(n, at int) api.Errno {
	if len(m.reasons) > 0 {
		return api.ErrTrip
	}
	if n < 0 {
		return api.ErrRange
	}
	if m.left().Cmp(number(n)) < 0 {
		m.fail(api.ErrFull, at)
		return api.ErrFull
	}
	m.used.Add(m.used, number(n))
	return api.OK
}

func (m *model) back(n int) api.Errno {
	if len(m.reasons) > 0 {
		return api.ErrTrip
	}
	if n < 0 || m.used.Cmp(number(n)) < 0 {
		return api.ErrRange
	}
	m.used.Sub(m.used, number(n))
	return api.OK
}

// walk has a trip and its model, and numbers for the next call.
type walk struct {
	t *testing.T
	r *rand.Rand
	x *trip.Trip
	m *model
}

func (w *walk) n() int {
	switch w.r.Intn(32) {
	case 0:
		return belows[w.r.Intn(len(belows))]
	case 1:
		return rooms[w.r.Intn(len(rooms))]
	case 2, 3, 4:
		return int(w.m.left().Int64()) - w.r.Intn(3)
	case 5, 6, 7:
		return int(w.m.used.Int64()) - w.r.Intn(3)
	}
	return int(w.r.Uint64() >> (1 + w.r.Intn(63)))
}

// look holds what the trip tells of itself against the model.
func (w *walk) look() {
	w.t.Helper()
	left := int(w.m.left().Int64())
	if len(w.m.reasons) == 0 {
		wantUp(w.t, w.x, left)
	} else {
		wantDown(w.t, w.x, left, w.m.reasons[0].Code, w.m.reasons[0].At)
	}
}

func (w *walk) step() {
	n, at := w.n(), places[w.r.Intn(len(places))]
	switch w.r.Intn(64) {
	case 0:
		wantNotFail(w.t, w.x, at)
	case 1:
		code := codes[w.r.Intn(len(codes))]
		first, _ := w.m.fail(code, at)
		wantFail(w.t, w.x, code, at, first)
	default:
		if w.r.Intn(2) == 0 {
			wantUse(w.t, w.x, n, at, w.m.use(n, at))
		} else {
			wantBack(w.t, w.x, n, w.m.back(n))
		}
	}
	w.look()
}

// 9.1 to 9.3, R7: what trips tell and keep on long walks, held against the model's words.
func TestWalk(t *testing.T) {
	for seed := range int64(2000) {
		r := rand.New(rand.NewSource(seed))
		room := int(r.Uint64() >> (1 + r.Intn(63)))
		w := &walk{t: t, r: r, x: made(t, room), m: newModel(room)}
		for range 100 {
			w.step()
		}
		if t.Failed() {
			return
		}
	}
}

// all takes every way that so many calls more can go, of a trip with room for 2: numbers from below
// 0 to more than there is room for.
func all(t *testing.T, depth int, calls []func(*walk)) {
	if depth == 0 {
		w := &walk{t: t, x: made(t, 2), m: newModel(2)}
		for _, call := range calls {
			call(w)
			w.look()
		}
		return
	}
	for n := -1; n <= 3; n++ {
		all(t, depth-1, append(calls, func(w *walk) { wantUse(w.t, w.x, n, depth, w.m.use(n, depth)) }))
		all(t, depth-1, append(calls, func(w *walk) { wantBack(w.t, w.x, n, w.m.back(n)) }))
	}
	all(t, depth-1, append(calls, func(w *walk) {
		first, _ := w.m.fail(api.ErrForm, depth)
		wantFail(w.t, w.x, api.ErrForm, depth, first)
	}))
	all(t, depth-1, append(calls, func(w *walk) { wantNotFail(w.t, w.x, depth) }))
}

// 9.1 to 9.3: all that five calls of a small trip can come to.
func TestAllShortWalks(t *testing.T) {
	all(t, 5, make([]func(*walk), 0, 5))
}
