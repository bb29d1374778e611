package keyed_test

import (
	"math/rand"
	"reflect"
	"slices"
	"strings"
	"testing"

	"weaver/api"
	"weaver/group"
	"weaver/keyed"
)

// someStretches are neighbours from 0 to all groups; some may be empty.
func someStretches(r *rand.Rand, groups int) [][2]int {
	ends := []int{0, groups}
	for range r.Intn(6) {
		ends = append(ends, r.Intn(groups+1))
	}
	slices.Sort(ends)
	var out [][2]int
	for i := range ends[1:] {
		out = append(out, [2]int{ends[i], ends[i+1]})
	}
	return out
}

// 17.5: a state that is saved in some stretches and loaded, again and again, is as one that was not.
func TestSavedAndLoaded(t *testing.T) {
	r := rand.New(rand.NewSource(5))
	for _, p := range somePatterns() {
		for _, groups := range []int{1, 2, 3, 10, api.MaxGroups} {
			s, m := begun(t, p, groups), &model{p: p, groups: groups}
			keys := names(1 + r.Intn(30))
			for range 12 {
				for range r.Intn(20) {
					m.wantFed(t, s, someEvent(r, keys))
				}
				var parts []string
				for _, x := range someStretches(r, groups) {
					parts = append(parts, saved(t, s, x[0], x[1]))
				}
				r.Shuffle(len(parts), func(i, j int) { parts[i], parts[j] = parts[j], parts[i] })
				s = loaded(t, p, groups, parts...)
				m.wantState(t, s)
			}
		}
	}
}

// tasks are states that have each a stretch of the groups.
type tasks []*keyed.State

// of is the state that has the key's group.
func (l tasks) of(key string, groups int) *keyed.State {
	g, _ := group.Of(key, groups)
	i, _ := group.Owner(groups, len(l), g)
	return l[i]
}

// become hands all runs on to another number of states: each old one is saved in the new ones' stretches.
func (l tasks) become(t *testing.T, p api.Pattern, groups, will int) (out tasks) {
	t.Helper()
	for i := range will {
		from, to, _ := group.Range(groups, will, i)
		var parts []string
		for _, s := range l {
			parts = append(parts, saved(t, s, from, to))
		}
		out = append(out, loaded(t, p, groups, parts...))
	}
	return out
}

// 17.5: keys that are fed in different states, which become more and fewer, are as in one; each key is
// in one of them, in which its group is, and none is lost.
func TestHandedOn(t *testing.T) {
	r := rand.New(rand.NewSource(6))
	for _, p := range somePatterns() {
		for _, groups := range []int{1, 4, 10, api.MaxGroups} {
			m := &model{p: p, groups: groups}
			l := tasks{begun(t, p, groups)}
			keys := names(1 + r.Intn(40))
			for range 8 {
				for range 40 {
					x := someEvent(r, keys)
					m.wantFed(t, l.of(x.Key, groups), x)
				}
				l = l.become(t, p, groups, 1+r.Intn(min(groups, api.MaxTasks)))
				var all []string
				for _, s := range l {
					all = append(all, s.Keys()...)
				}
				if slices.Sort(all); !slices.Equal(all, m.sorted()) {
					t.Fatal(all, m.sorted())
				}
				m.wantState(t, l.become(t, p, groups, 1)[0])
			}
		}
	}
}

// roomy has behind its length what must not be read nor written.
func roomy[T any](l []T, behind T) []T {
	out := append(make([]T, 0, len(l)+3), l...)
	return append(out, behind, behind, behind)[:len(l)]
}

func roomyPattern(p api.Pattern) api.Pattern {
	for i, s := range p.Stages {
		p.Stages[i].Cond = roomy(s.Cond, api.Part{Kind: 77})
	}
	p.Stages = roomy(p.Stages, api.Stage{Name: "behind"})
	return p
}

// spoil writes into all of a pattern that was handed in, behind its lists too.
func spoil(p api.Pattern) {
	for i := range p.Stages {
		cond := p.Stages[i].Cond
		for j := range cond[:cap(cond)] {
			cond[:cap(cond)][j] = api.Part{Kind: 99}
		}
	}
	clear(p.Stages[:cap(p.Stages)])
}

// R4: a pattern and parts that are handed in are neither changed nor kept: keys that come later have the
// pattern as it was.
func TestArgumentsAreNotKept(t *testing.T) {
	ahead := part(t, "a", "b")
	for _, parts := range [][]string{nil, {ahead, part(t, "c")}} {
		p := roomyPattern(read(goodPattern))
		handed := roomy(parts, "behind")
		s, e := keyed.Load(p, 4, handed)
		if parts == nil {
			s, e = keyed.New(p, 4)
		}
		if e != api.OK || !reflect.DeepEqual(p, read(goodPattern)) || p.Stages[:cap(p.Stages)][len(p.Stages)].Name != "behind" {
			t.Fatal("the pattern was changed", e)
		}
		if !slices.Equal(handed, parts) || handed[:cap(handed)][len(handed)] != "behind" {
			t.Error("the parts were changed")
		}
		spoil(p)
		clear(handed[:cap(handed)])
		other := loaded(t, read(goodPattern), 4, parts...)
		for _, x := range slices.Concat(typed("k", "xyyz"), typed("a", "yzxz"), typed("j", "zxyz")) {
			l, e := s.Feed(x)
			want, _ := other.Feed(x)
			if e != api.OK || !sameMatches(l, want) {
				t.Fatal(x, l, e, want)
			}
		}
		if saved(t, s, 0, 4) != saved(t, other, 0, 4) {
			t.Error("saved otherwise")
		}
	}
}

// R4: what is told is new memory: who writes into it changes neither the state nor another answer.
func TestAnswersAreNew(t *testing.T) {
	p := read("start a: type == 'x'; any b+: type == 'y'; within 9")
	s, m := begun(t, p, 4), &model{p: p, groups: 4}
	for _, key := range []string{"b", "a", "c"} {
		for _, x := range typed(key, "xxyyy") {
			l, e := s.Feed(x)
			want, _ := m.feed(t, x)
			if e != api.OK || !sameMatches(l, want) {
				t.Fatal(l, e)
			}
			first, second := s.Keys(), s.Keys()
			for _, match := range l {
				for _, places := range match.Stages {
					clear(places[:cap(places)])
				}
				clear(match.Stages[:cap(match.Stages)])
			}
			clear(l[:cap(l)])
			clear(first[:cap(first)])
			if !slices.Equal(second, m.sorted()) {
				t.Fatal("answers share memory")
			}
			m.wantState(t, s)
		}
	}
}

// 17.5, R4: a state that was saved, and those that were loaded from it, do not know of each other.
func TestStatesAreApart(t *testing.T) {
	p := read(goodPattern)
	s := fed(t, fed(t, begun(t, p, 4), "a", "xy"), "b", "x")
	b := saved(t, s, 0, 4)
	one, two := loaded(t, p, 4, b), loaded(t, p, 4, b)
	fed(t, fed(t, one, "a", "z"), "c", "x")
	if saved(t, s, 0, 4) != b || saved(t, two, 0, 4) != b {
		t.Error("another state was changed")
	}
	was := saved(t, one, 0, 4)
	fed(t, s, "b", "yyz")
	if saved(t, one, 0, 4) != was || saved(t, two, 0, 4) != b {
		t.Error("another state was changed")
	}
}

// R7: what is asked again is told again, and asking changes nothing.
func TestAskedAgain(t *testing.T) {
	r := rand.New(rand.NewSource(7))
	p := somePatterns()[1]
	s, m := begun(t, p, 6), &model{p: p, groups: 6}
	for range 60 {
		m.wantFed(t, s, someEvent(r, names(50)))
	}
	for range 20 {
		m.wantState(t, s)
		s.Save(-1, 3)
		s.Save(0, 7)
	}
}

// P1: a pattern of as many stages as may be, with great conditions, and as many keys as may be.
func TestEnds(t *testing.T) {
	part := "(0 < 1" + strings.Repeat(" and n0 != 7", 23) + ")"
	text := "start s0+: " + part + " and " + part + "; "
	for i := 1; i < api.MaxStages; i++ {
		text += "any s" + string(rune('0'+i)) + "+: " + part + " and " + part + "; "
	}
	p := read(text + "within 256")
	s := begun(t, p, api.MaxGroups)
	for _, key := range names(keysAtMost) {
		fed(t, s, key, "xx")
	}
	if len(s.Keys()) != keysAtMost || s.Live() != 4*keysAtMost {
		t.Error(len(s.Keys()), s.Live())
	}
	again := loaded(t, p, api.MaxGroups, saved(t, s, 0, 50), saved(t, s, 50, api.MaxGroups))
	if !slices.Equal(again.Keys(), s.Keys()) || again.Live() != s.Live() {
		t.Error(len(again.Keys()), again.Live())
	}
}
