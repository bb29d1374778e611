package keyed_test

import (
	"fmt"
	"math/rand"
	"reflect"
	"slices"
	"testing"

	"weaver/api"
	"weaver/group"
	"weaver/keyed"
	"weaver/pack"
	"weaver/pattern"
	"weaver/run"
)

const keysAtMost = 256

// read is a pattern that may be.
func read(s string) api.Pattern {
	p, f := pattern.Read(s)
	if f != (api.Fault{}) {
		panic(fmt.Sprint(s, f))
	}
	return p
}

func number(n int) api.Item { return api.Item{N: int64(n)} }

func text(s string) api.Item { return api.Item{Text: true, S: s} }

func bytesOf(t *testing.T, l ...api.Item) string {
	t.Helper()
	b, e := pack.Encode(l)
	if e != api.OK {
		t.Fatal(e)
	}
	return b
}

func begun(t *testing.T, p api.Pattern, groups int) *keyed.State {
	t.Helper()
	s, e := keyed.New(p, groups)
	if e != api.OK || s == nil {
		t.Fatal(e)
	}
	return s
}

func saved(t *testing.T, s *keyed.State, from, to int) string {
	t.Helper()
	b, e := s.Save(from, to)
	if e != api.OK {
		t.Fatalf("Save(%d, %d): %d", from, to, e)
	}
	return b
}

func loaded(t *testing.T, p api.Pattern, groups int, parts ...string) *keyed.State {
	t.Helper()
	s, e := keyed.Load(p, groups, parts)
	if e != api.OK || s == nil {
		t.Fatalf("Load: %d", e)
	}
	return s
}

// fed feeds events of a key, whose types are single letters, none of which may be refused.
func fed(t *testing.T, s *keyed.State, key, types string) *keyed.State {
	t.Helper()
	for _, x := range typed(key, types) {
		if _, e := s.Feed(x); e != api.OK {
			t.Fatal(x, e)
		}
	}
	return s
}

func typed(key, types string) []api.Event {
	var out []api.Event
	for i := range len(types) {
		out = append(out, api.Event{Key: key, Type: types[i : i+1], N: [4]int64{int64(i)}})
	}
	return out
}

// names are keys that differ, in no order of theirs.
func names(n int) []string {
	var out []string
	for i := range n {
		out = append(out, fmt.Sprintf("k%d", i*7919%100003))
	}
	return out
}

// sameMatches takes nil and empty for the same.
func sameMatches(a, b []api.Match) bool {
	return len(a) == 0 && len(b) == 0 || reflect.DeepEqual(a, b)
}

// model has the runs of the layer below side by side, each of which was fed its own key's events.
type model struct {
	p      api.Pattern
	groups int
	keys   []string
	runs   []*run.Run
}

func (m *model) feed(t *testing.T, x api.Event) ([]api.Match, api.Errno) {
	t.Helper()
	i := slices.Index(m.keys, x.Key)
	if i < 0 {
		r, e := run.New(m.p, x.Key)
		if e != api.OK {
			t.Fatal(e)
		}
		i = len(m.keys)
		m.keys, m.runs = append(m.keys, x.Key), append(m.runs, r)
	}
	return m.runs[i].Feed(x)
}

func (m *model) sorted() []string {
	l := slices.Clone(m.keys)
	slices.SortFunc(l, func(a, b string) int { return slices.Compare([]byte(a), []byte(b)) })
	return l
}

func (m *model) live() (n int) {
	for _, r := range m.runs {
		n += r.Live()
	}
	return n
}

// save is the chapter's words; what is refused of a run is told ahead.
func (m *model) save(from, to int) (string, api.Errno) {
	l := []api.Item{number(m.groups), number(0)}
	for _, key := range m.sorted() {
		if g := int(group.Hash(key) % uint32(m.groups)); g < from || g >= to {
			continue
		}
		b, e := m.runs[slices.Index(m.keys, key)].Save()
		if e != api.OK {
			return "", e
		}
		l = append(l, text(b))
	}
	l[1] = number(len(l) - 2)
	return pack.Encode(l)
}

// wantFed feeds both.
func (m *model) wantFed(t *testing.T, s *keyed.State, x api.Event) {
	t.Helper()
	want, wantErr := m.feed(t, x)
	if l, e := s.Feed(x); e != wantErr || !sameMatches(l, want) {
		t.Fatalf("%v: %v, %d, want %v, %d", x, l, e, want, wantErr)
	}
}

// wantState holds all that a state tells against the model.
func (m *model) wantState(t *testing.T, s *keyed.State) {
	t.Helper()
	if l := s.Keys(); !slices.Equal(l, m.sorted()) || s.Live() != m.live() {
		t.Fatalf("%v, %d, want %v, %d", l, s.Live(), m.sorted(), m.live())
	}
	m.wantSaved(t, s, 0, m.groups)
	for g := range m.groups {
		m.wantSaved(t, s, g, g+1)
	}
}

func (m *model) wantSaved(t *testing.T, s *keyed.State, from, to int) {
	t.Helper()
	want, wantErr := m.save(from, to)
	if b, e := s.Save(from, to); b != want || e != wantErr {
		t.Fatalf("Save(%d, %d): %q, %d, want %q, %d", from, to, b, e, want, wantErr)
	}
}

// somePatterns have stages that wait, that take many, and that ask for those ahead.
func somePatterns() []api.Pattern {
	return []api.Pattern{
		read("start a: type == 'x'; then b: type == 'y'; within 9"),
		read("start a: type == 'x'; any b+: type == 'y'; within 6"),
		read("start a+: type == 'x'; next b: type == 'y' and a.n0 < n0; within 4"),
		read("start a: 0 < 1; any b: a.type == type; then c: type == 'z'; within 5"),
		read("start a: type == 'z'; within 1"),
	}
}

func someEvent(r *rand.Rand, keys []string) api.Event {
	return api.Event{
		Key:  keys[r.Intn(len(keys))],
		Type: "xyz"[r.Intn(3):][:1],
		N:    [4]int64{int64(r.Intn(3))},
		Text: "t"[r.Intn(2):],
	}
}
