package keyed_test

import (
	"math"
	"math/rand"
	"slices"
	"strings"
	"testing"

	"weaver/api"
	"weaver/keyed"
)

func wrongPatterns() []api.Pattern {
	var out []api.Pattern
	for _, change := range []func(p *api.Pattern){
		func(p *api.Pattern) { p.Stages = nil },
		func(p *api.Pattern) { p.Within = 0 },
		func(p *api.Pattern) { p.Within = api.MaxWindow + 1 },
		func(p *api.Pattern) { p.Stages[1].Name = "a" },
		func(p *api.Pattern) { p.Stages[0].How = api.SAny },
		func(p *api.Pattern) { p.Stages[1].Cond = nil },
	} {
		p := read("start a: 0 < 1; any b: a.n0 < 1; within 9")
		change(&p)
		out = append(out, p)
	}
	return out
}

func wrongGroups() []int {
	return []int{0, -1, math.MinInt, api.MaxGroups + 1, math.MaxInt}
}

func wrongEvents() []api.Event {
	return []api.Event{
		{},
		{Key: "k"},
		{Type: "x"},
		{Key: "K", Type: "x"},
		{Key: "k k", Type: "x"},
		{Key: "é", Type: "x"},
		{Key: strings.Repeat("k", api.MaxName+1), Type: "x"},
		{Key: "k", Type: "X"},
		{Key: "k", Type: strings.Repeat("x", api.MaxName+1)},
		{Key: "k", Type: "x", Text: strings.Repeat("x", api.MaxText+1)},
	}
}

// 17.1, R1, R5: a pattern that may not be, ahead of groups that may not be.
func TestNewRefuses(t *testing.T) {
	for _, p := range wrongPatterns() {
		for _, groups := range append(wrongGroups(), 1, 4) {
			if s, e := keyed.New(p, groups); s != nil || e != api.ErrPattern {
				t.Error(p, groups, e)
			}
		}
	}
	for _, groups := range wrongGroups() {
		if s, e := keyed.New(somePatterns()[0], groups); s != nil || e != api.ErrRange {
			t.Error(groups, e)
		}
	}
}

// 17.1: a state without keys, of all numbers of groups.
func TestNew(t *testing.T) {
	p := somePatterns()[0]
	for groups := 1; groups <= api.MaxGroups; groups++ {
		m := &model{p: p, groups: groups}
		s := begun(t, p, groups)
		if len(s.Keys()) != 0 || s.Live() != 0 {
			t.Error(groups, s.Keys(), s.Live())
		}
		m.wantState(t, s)
	}
}

// 17.1: keys rise by bytes: digits ahead of letters, a beginning ahead of what goes on.
func TestKeys(t *testing.T) {
	p := somePatterns()[0]
	longest := strings.Repeat("z", api.MaxName)
	for _, types := range []string{"x", "w", "xyx"} {
		s := begun(t, p, 3)
		for _, key := range []string{"b", "ab", longest, "a", "10", "z", "9", "b", "a0", "aa"} {
			fed(t, s, key, types)
		}
		want := []string{"10", "9", "a", "a0", "aa", "ab", "b", "z", longest}
		if l := s.Keys(); !slices.Equal(l, want) {
			t.Error(l)
		}
	}
}

// 17.1: partial matches of all keys, while they come and go.
func TestLive(t *testing.T) {
	s := begun(t, read("start a: type == 'x'; then b: type == 'y'; within 3"), 2)
	for i, x := range []struct {
		key, types string
		live       int
	}{
		{"a", "x", 1}, {"b", "x", 2}, {"a", "x", 3}, {"c", "w", 3}, {"b", "y", 2}, {"a", "w", 1}, {"a", "w", 0}, {"b", "x", 1},
	} {
		if fed(t, s, x.key, x.types); s.Live() != x.live {
			t.Error(i, s.Live(), x.live)
		}
	}
}

// 17.1, 17.2, R5: events that may not be are not fed, neither to a new key nor to one that is there.
func TestFeedRefuses(t *testing.T) {
	p := somePatterns()[1]
	s, m := begun(t, p, 4), &model{p: p, groups: 4}
	for _, x := range append(typed("k", "xyy"), typed("j", "xxy")...) {
		for _, no := range wrongEvents() {
			if l, e := s.Feed(no); len(l) != 0 || e != api.ErrEvent {
				t.Error(no, l, e)
			}
			m.wantState(t, s)
		}
		m.wantFed(t, s, x)
		m.wantState(t, s)
	}
}

// 17.2: a key's events are a sequence of their own, whatever comes between; the key stands in its matches.
func TestFeed(t *testing.T) {
	s := begun(t, read("start a: type == 'x'; next b: type == 'y'; within 2"), 4)
	for i, x := range []struct {
		key, typ string
		place    int
	}{
		{"a", "x", -1}, {"b", "w", -1}, {"b", "x", -1}, {"b", "z", -1}, {"a", "y", 1}, {"c", "y", -1}, {"b", "x", -1}, {"b", "y", 4}, {"a", "y", -1},
	} {
		l, e := s.Feed(api.Event{Key: x.key, Type: x.typ})
		var want []api.Match
		if x.place >= 0 {
			want = []api.Match{{Key: x.key, Stages: [][]int{{x.place - 1}, {x.place}}}}
		}
		if e != api.OK || !sameMatches(l, want) {
			t.Error(i, l, e, want)
		}
	}
}

// 17.2: what each key's run answers, of many keys in turn.
func TestFeedAsRuns(t *testing.T) {
	r := rand.New(rand.NewSource(1))
	for _, p := range somePatterns() {
		for _, groups := range []int{1, 2, 7, api.MaxGroups} {
			s, m := begun(t, p, groups), &model{p: p, groups: groups}
			keys := names(1 + r.Intn(20))
			for range 150 {
				m.wantFed(t, s, someEvent(r, keys))
			}
			m.wantState(t, s)
		}
	}
}

// 17.2, R1, R5: as many keys as may be; one more is refused behind an event that may not be, those that
// are there are fed.
func TestFeedKeys(t *testing.T) {
	p := somePatterns()[1]
	s, m := begun(t, p, 5), &model{p: p, groups: 5}
	all := names(keysAtMost + 3)
	for _, key := range all[:keysAtMost] {
		m.wantFed(t, s, typed(key, "x")[0])
	}
	wantFull := func() {
		t.Helper()
		for _, key := range all[keysAtMost:] {
			for _, typ := range []string{"x", "w"} {
				if l, e := s.Feed(api.Event{Key: key, Type: typ}); len(l) != 0 || e != api.ErrLong {
					t.Fatal(key, l, e)
				}
			}
		}
		for _, no := range wrongEvents() {
			if l, e := s.Feed(no); len(l) != 0 || e != api.ErrEvent {
				t.Fatal(no, l, e)
			}
		}
		m.wantState(t, s)
	}
	wantFull()
	if len(s.Keys()) != keysAtMost || s.Live() != keysAtMost {
		t.Error(len(s.Keys()), s.Live())
	}
	for _, key := range all[:keysAtMost] {
		m.wantFed(t, s, typed(key, "y")[0])
	}
	wantFull()
	s = loaded(t, p, 5, saved(t, s, 0, 3), saved(t, s, 3, 5))
	wantFull()
}

// 17.2, R5: what a run refuses changes nothing, and other keys go on.
func TestFeedMany(t *testing.T) {
	p := read("start a: type == 'x'; any b+: type == 'y'; any c: type == 'z'; within 14")
	s, m := begun(t, p, 4), &model{p: p, groups: 4}
	for _, x := range append(typed("k", "xyyyyyyyyyy"), typed("j", "xy")...) {
		m.wantFed(t, s, x)
	}
	if s.Live() != api.MaxLive+2 {
		t.Fatal(s.Live())
	}
	for _, typ := range []string{"x", "y"} {
		if l, e := s.Feed(api.Event{Key: "k", Type: typ}); len(l) != 0 || e != api.ErrMany {
			t.Error(len(l), e)
		}
		m.wantState(t, s)
		m.wantFed(t, s, api.Event{Key: "j", Type: typ})
	}
	m.wantFed(t, s, api.Event{Key: "k", Type: "z"})
	m.wantState(t, s)
}

// 17.2, R5: a key that has seen as many events as may be.
func TestFeedEnds(t *testing.T) {
	p := somePatterns()[0]
	s := loaded(t, p, 2, bytesOf(t, number(2), number(1), text(bytesOf(t, text("k"), number(api.MaxSeq-1), number(0)))))
	fed(t, s, "k", "x")
	b := saved(t, s, 0, 2)
	if l, e := s.Feed(typed("k", "y")[0]); len(l) != 0 || e != api.ErrLong {
		t.Error(l, e)
	}
	if saved(t, s, 0, 2) != b || s.Live() != 1 {
		t.Error("something changed")
	}
	fed(t, s, "j", "x")
	if l := s.Keys(); !slices.Equal(l, []string{"j", "k"}) {
		t.Error(l)
	}
}
