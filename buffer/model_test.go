package buffer_test

import (
	"math/rand/v2"
	"slices"
	"testing"

	"weaver/api"
	"weaver/buffer"
)

// item is an entry of the model. Counts are not kept: they are counted anew each time.
type item struct{ stage, place, parent, held int }

// model says all that the chapter says, with a map, and without any thrift.
type model map[int]*item

func (m model) put(stage, place, parent int) (int, api.Errno) {
	if stage < 0 || stage > 7 || place < 0 || place > 1<<30 {
		return 0, api.ErrRange
	}
	if parent != -1 && m[parent] == nil {
		return 0, api.ErrRef
	}
	if parent != -1 && (stage < m[parent].stage || place <= m[parent].place) {
		return 0, api.ErrRange
	}
	for id, x := range m {
		if x.stage == stage && x.place == place && x.parent == parent {
			x.held++
			return id, api.OK
		}
	}
	if len(m) == 4096 {
		return 0, api.ErrLong
	}
	for id := 0; ; id++ {
		if m[id] == nil {
			m[id] = &item{stage, place, parent, 1}
			return id, api.OK
		}
	}
}

func (m model) hold(id int) api.Errno {
	if m[id] == nil {
		return api.ErrRef
	}
	m[id].held++
	return api.OK
}

func (m model) count(id int) (int, api.Errno) {
	if m[id] == nil {
		return 0, api.ErrRef
	}
	n := m[id].held
	for _, x := range m {
		if x.parent == id {
			n++
		}
	}
	return n, api.OK
}

// drop takes away whatever nothing holds, anywhere, until there is no such entry any more.
func (m model) drop(id int) (int, api.Errno) {
	if m[id] == nil {
		return 0, api.ErrRef
	}
	if m[id].held == 0 {
		return 0, api.ErrRange
	}
	m[id].held--
	gone := 0
	for again := true; again; {
		again = false
		for other := range m {
			if n, _ := m.count(other); n == 0 {
				delete(m, other)
				gone++
				again = true
			}
		}
	}
	return gone, api.OK
}

func (m model) way(id int) ([][2]int, api.Errno) {
	if m[id] == nil {
		return nil, api.ErrRef
	}
	var front [][2]int
	if m[id].parent != -1 {
		front, _ = m.way(m[id].parent)
	}
	return append(front, [2]int{m[id].stage, m[id].place}), api.OK
}

// wantAs holds all that can be asked of a buffer against the model, at numbers below n and at some
// that no entry has.
func wantAs(t *testing.T, b *buffer.Buffer, m model, n int) {
	t.Helper()
	wantLen(t, b, len(m))
	for id := -2; id < n; id++ {
		got, e := b.Count(id)
		want, f := m.count(id)
		if got != want || e != f {
			t.Fatalf("Count(%d): %d, %d, want %d, %d", id, got, e, want, f)
		}
		way, e := b.Way(id)
		right, f := m.way(id)
		if !slices.Equal(way, right) || e != f {
			t.Fatalf("Way(%d): %v, %d, want %v, %d", id, way, e, right, f)
		}
	}
}

// act does one thing, the same to both: a put mostly of what may be, and of few different numbers,
// so that the same three come often.
func act(t *testing.T, r *rand.Rand, b *buffer.Buffer, m model, puts int) {
	t.Helper()
	id := r.IntN(14) - 2
	switch kind := r.IntN(10); {
	case kind < puts:
		stage, place := r.IntN(5)-1, r.IntN(8)-1
		got, e := b.Put(stage, place, id)
		want, f := m.put(stage, place, id)
		if got != want || e != f {
			t.Fatalf("Put(%d, %d, %d): %d, %d, want %d, %d", stage, place, id, got, e, want, f)
		}
	case kind == puts:
		if e, f := b.Hold(id), m.hold(id); e != f {
			t.Fatalf("Hold(%d): %d, want %d", id, e, f)
		}
	default:
		got, e := b.Drop(id)
		want, f := m.drop(id)
		if got != want || e != f {
			t.Fatalf("Drop(%d): %d, %d, want %d, %d", id, got, e, want, f)
		}
	}
}

// 16.1, 16.2, R5: all that is told behind any acts is what the model tells; acts that are refused
// have changed nothing.
func TestAsModel(t *testing.T) {
	for seed := range uint64(300) {
		r := rand.New(rand.NewPCG(16, seed))
		b, m := buffer.New(), model{}
		puts := 3 + r.IntN(5)
		for range 120 {
			act(t, r, b, m, puts)
			wantAs(t, b, m, 30)
		}
	}
}

// 16.3: as long as something holds an entry its way stays as it is, whatever else comes and goes.
func TestWayStays(t *testing.T) {
	for seed := range uint64(200) {
		r := rand.New(rand.NewPCG(163, seed))
		b, m := buffer.New(), model{}
		wantPut(t, b, 0, 0, -1, 0)
		wantPut(t, b, 1, 2, 0, 1)
		wantPut(t, b, 1, 4, 1, 2)
		wantDrop(t, b, 0, 0)
		wantDrop(t, b, 1, 0)
		m[0], m[1], m[2] = &item{0, 0, -1, 0}, &item{1, 2, 0, 0}, &item{1, 4, 1, 1}
		for range 100 {
			act(t, r, b, m, 5)
			if m[2] == nil || m[2].stage != 1 || m[2].place != 4 {
				break
			}
			wantWay(t, b, 2, [2]int{0, 0}, [2]int{1, 2}, [2]int{1, 4})
		}
	}
}

// 16.3: when all that was put and held has been dropped as often, in whatever order, nothing is
// left; each entry has been told as gone once.
func TestNothingLeft(t *testing.T) {
	for seed := range uint64(200) {
		r := rand.New(rand.NewPCG(1633, seed))
		b := buffer.New()
		var holds []int
		for range 200 {
			if len(holds) > 0 && r.IntN(4) == 0 {
				id := holds[r.IntN(len(holds))]
				wantHold(t, b, id, api.OK)
				holds = append(holds, id)
				continue
			}
			if id, e := b.Put(r.IntN(8), r.IntN(20), r.IntN(b.Len()+1)-1); e == api.OK {
				holds = append(holds, id)
			}
		}
		r.Shuffle(len(holds), func(i, j int) { holds[i], holds[j] = holds[j], holds[i] })
		left := b.Len()
		for _, id := range holds {
			gone, e := b.Drop(id)
			if e != api.OK {
				t.Fatal(id, e)
			}
			left -= gone
			wantLen(t, b, left)
		}
		wantNothing(t, b)
	}
}
