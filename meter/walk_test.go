package meter_test

import (
	"math/big"
	"math/rand"
	"testing"

	"weaver/api"
	"weaver/meter"
)

// model is a meter by the chapter's words, with numbers that know no bound.
type model [8]*big.Int

func newModel() *model {
	var m model
	for k := range m {
		m[k] = new(big.Int)
	}
	return &m
}

func isCount(n *big.Int) bool {
	return n.Sign() >= 0 && n.Cmp(new(big.Int).Lsh(big.NewInt(1), 62)) <= 0
}

func number(n int) *big.Int { return big.NewInt(int64(n)) }

func (m *model) add(k, n int) (int, api.Errno) {
	if k < 0 || k > 7 {
		return 0, api.ErrNone
	}
	if n < 0 {
		return 0, api.ErrRange
	}
	sum := new(big.Int).Add(m[k], number(n))
	if !isCount(sum) {
		return 0, api.ErrLong
	}
	m[k] = sum
	return int(sum.Int64()), api.OK
}

func (m *model) most(k, n int) (int, api.Errno) {
	if k < 0 || k > 7 {
		return 0, api.ErrNone
	}
	if !isCount(number(n)) {
		return 0, api.ErrRange
	}
	if m[k].Cmp(number(n)) < 0 {
		m[k] = number(n)
	}
	return int(m[k].Int64()), api.OK
}

func (m *model) swap(k, was, will int) (bool, api.Errno) {
	if k < 0 || k > 7 {
		return false, api.ErrNone
	}
	if !isCount(number(was)) || !isCount(number(will)) {
		return false, api.ErrRange
	}
	if m[k].Cmp(number(was)) != 0 {
		return false, api.OK
	}
	m[k] = number(will)
	return true, api.OK
}

func (m *model) join(other *model) api.Errno {
	var sums model
	for k := range m {
		sums[k] = new(big.Int).Add(m[k], other[k])
		if !isCount(sums[k]) {
			return api.ErrLong
		}
	}
	*m = sums
	return api.OK
}

func (m *model) all() [8]int {
	var all [8]int
	for k, n := range m {
		all[k] = int(n.Int64())
	}
	return all
}

// walk has meters and their models, and numbers for the next call.
type walk struct {
	t      *testing.T
	r      *rand.Rand
	meters []*meter.Meter
	models []*model
}

// k is one of the eight, but for one time in sixteen.
func (w *walk) k() int {
	if w.r.Intn(16) == 0 {
		return wrongKs[w.r.Intn(len(wrongKs))]
	}
	return w.r.Intn(8)
}

func (w *walk) n(count int) int {
	switch w.r.Intn(16) {
	case 0:
		return wrongCounts[w.r.Intn(len(wrongCounts))]
	case 1, 2:
		return anyCounts[w.r.Intn(len(anyCounts))]
	case 3, 4, 5, 6:
		return count + w.r.Intn(3) - 1
	case 7:
		return greatest - count + w.r.Intn(3) - 1
	}
	return w.r.Intn(1 << w.r.Intn(62))
}

func (w *walk) step() {
	i, k := w.r.Intn(len(w.meters)), w.k()
	m, o := w.meters[i], w.models[i]
	count := o.all()[k&7]
	switch w.r.Intn(8) {
	case 0, 1:
		n := w.n(count)
		got, e := m.Add(k, n)
		if want, f := o.add(k, n); got != want || e != f {
			w.t.Fatalf("Add(%d, %d) = %d, %d, want %d, %d", k, n, got, e, want, f)
		}
	case 2, 3:
		n := w.n(count)
		got, e := m.Most(k, n)
		if want, f := o.most(k, n); got != want || e != f {
			w.t.Fatalf("Most(%d, %d) = %d, %d, want %d, %d", k, n, got, e, want, f)
		}
	case 4, 5, 6:
		was, will := w.n(count), w.n(count)
		got, e := m.Swap(k, was, will)
		if want, f := o.swap(k, was, will); got != want || e != f {
			w.t.Fatalf("Swap(%d, %d, %d) = %v, %d, want %v, %d", k, was, will, got, e, want, f)
		}
	default:
		j := w.r.Intn(len(w.meters))
		if e, f := m.Join(w.meters[j]), o.join(w.models[j]); e != f {
			w.t.Fatalf("Join = %d, want %d", e, f)
		}
	}
	for i, m := range w.meters {
		wantAll(w.t, m, w.models[i].all())
	}
}

// 8.1, 8.2, R7: what meters tell and keep on long walks, held against the model's words.
func TestWalk(t *testing.T) {
	for seed := range int64(100) {
		w := &walk{t: t, r: rand.New(rand.NewSource(seed))}
		for range 3 {
			w.meters = append(w.meters, made(t))
			w.models = append(w.models, newModel())
		}
		for range 400 {
			w.step()
		}
	}
}
