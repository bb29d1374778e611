package source_test

import (
	"math/rand"
	"slices"
	"testing"

	"weaver/api"
	"weaver/source"
)

// placed is an event and where it was put, by the chapter's words: a model has them all in one list.
type placed struct {
	e            api.Event
	part, offset int
}

type model struct {
	parts int
	all   []placed
}

func (m *model) part(key string) int {
	sum := 0
	for _, c := range []byte(key) {
		sum += int(c)
	}
	return sum % m.parts
}

func (m *model) ends() []int {
	ends := make([]int, m.parts)
	for _, x := range m.all {
		ends[x.part]++
	}
	return ends
}

func (m *model) put(e api.Event) (part, offset int) {
	part = m.part(e.Key)
	offset = m.ends()[part]
	m.all = append(m.all, placed{e, part, offset})
	return part, offset
}

func (m *model) find(fits func(placed) bool) []api.Event {
	var l []api.Event
	for _, x := range m.all {
		if fits(x) {
			l = append(l, x.e)
		}
	}
	return l
}

var walkKeys = []string{"a", "b", "c", "ab", "ba", "k1", "k2", "key0", "0", "9z"}

func someOffsets(r *rand.Rand, ends []int) []int {
	offsets := slices.Clone(ends)
	for i, end := range ends {
		offsets[i] = r.Intn(end + 1)
	}
	return offsets
}

// look holds a source against a model, at places of chance.
func look(t *testing.T, r *rand.Rand, s *source.Source, m *model) {
	t.Helper()
	ends := m.ends()
	wantEnds(t, s, ends...)
	part := r.Intn(m.parts)
	from, most := r.Intn(ends[part]+1), r.Intn(ends[part]+3)
	wantRead(t, s, part, from, most, m.find(func(x placed) bool {
		return x.part == part && x.offset >= from && x.offset < from+most
	}))
	key, offsets := walkKeys[r.Intn(len(walkKeys))], someOffsets(r, ends)
	wantBelow(t, s, key, offsets, m.find(func(x placed) bool {
		return x.e.Key == key && x.offset < offsets[x.part]
	})...)
}

// 5.1 to 5.3: walks of puts and looks, with some refusals between, with each number of partitions.
func TestWalks(t *testing.T) {
	r := rand.New(rand.NewSource(5))
	for parts := 1; parts <= api.MaxParts; parts++ {
		s, m := made(t, parts), &model{parts: parts}
		for i := range 200 {
			if r.Intn(8) == 0 {
				wantNotPut(t, s, api.Event{Key: "K", Type: "t"}, api.ErrEvent)
			}
			e := of(walkKeys[r.Intn(len(walkKeys))], int64(i))
			part, offset := m.put(e)
			wantPut(t, s, e, part, offset)
			look(t, r, s, m)
		}
	}
}

// inParts reads a partition by stretches of chance up to an end.
func inParts(t *testing.T, r *rand.Rand, s *source.Source, part, end int) []api.Event {
	t.Helper()
	var l []api.Event
	for len(l) < end {
		some, e := s.Read(part, len(l), min(r.Intn(5), end-len(l)))
		if e != api.OK {
			t.Fatal(e)
		}
		l = append(l, some...)
	}
	return l
}

// 5.4: what was read is read again behind all that comes, in parts too.
func TestReadStays(t *testing.T) {
	r := rand.New(rand.NewSource(54))
	s := made(t, 3)
	var kept [][][]api.Event // of each round, of each partition, what was read then
	for i := range 60 {
		for range 1 + r.Intn(4) {
			s.Put(of(walkKeys[r.Intn(len(walkKeys))], int64(i)))
		}
		var now [][]api.Event
		for part, end := range s.Ends() {
			l, e := s.Read(part, 0, end)
			if e != api.OK || len(l) != end {
				t.Fatal(len(l), end, e)
			}
			now = append(now, l)
		}
		kept = append(kept, now)
	}
	for _, now := range kept {
		for part, l := range now {
			wantRead(t, s, part, 0, len(l), l)
			if got := inParts(t, r, s, part, len(l)); !slices.Equal(got, l) {
				t.Errorf("in parts: %v, want %v", got, l)
			}
		}
	}
}

// 5.4: what is below offsets stays so, whatever is put behind them.
func TestBelowStays(t *testing.T) {
	r := rand.New(rand.NewSource(55))
	s := made(t, 4)
	type told struct {
		key     string
		offsets []int
		events  []api.Event
	}
	var all []told
	for i := range 300 {
		s.Put(of(walkKeys[r.Intn(len(walkKeys))], int64(i)))
		x := told{key: walkKeys[r.Intn(len(walkKeys))], offsets: someOffsets(r, s.Ends())}
		x.events, _ = s.Below(x.key, x.offsets)
		all = append(all, x)
	}
	for _, x := range all {
		wantBelow(t, s, x.key, x.offsets, x.events...)
	}
}

// 5.4: the keys' events below the ends are all events, each of them once, and each key's are in one partition.
func TestKeysHaveAllEvents(t *testing.T) {
	r := rand.New(rand.NewSource(56))
	for parts := 1; parts <= api.MaxParts; parts++ {
		s := made(t, parts)
		met := map[api.Event]int{}
		for i := range 300 {
			e := of(walkKeys[r.Intn(len(walkKeys))], int64(i))
			s.Put(e)
			met[e]++
		}
		for _, key := range walkKeys {
			l, _ := s.Below(key, s.Ends())
			for i, e := range l {
				if met[e]--; e.Key != key || i > 0 && l[i-1].N[0] >= e.N[0] {
					t.Errorf("%q has %v at %d", key, e, i)
				}
			}
		}
		for e, n := range met {
			if n != 0 {
				t.Errorf("%v is told %d times too few", e, n)
			}
		}
	}
}
