package match_test

import (
	"reflect"
	"slices"
	"testing"

	"weaver/api"
	"weaver/match"
)

// roomy has behind its length what must not be read nor written.
func roomy[T any](l []T, behind T) []T {
	out := make([]T, 0, len(l)+3)
	out = append(append(out, l...), behind, behind, behind)
	return out[:len(l)]
}

// roomyPattern has room behind all its lists.
func roomyPattern(p api.Pattern) api.Pattern {
	for i, s := range p.Stages {
		p.Stages[i].Cond = roomy(s.Cond, api.Part{Kind: 77})
	}
	p.Stages = roomy(p.Stages, api.Stage{Name: "behind"})
	return p
}

// unfolded is a list with its room.
func unfolded[T any](l []T) []T {
	return slices.Clone(l[:cap(l)])
}

// R4: neither what is handed in nor what lies behind it is changed, nor is that read.
func TestGivenStays(t *testing.T) {
	const text = "start a+: type == 'x'; any b+: a.n0 < n0; then c: b.n0 < n0 and type == 'y'; within 9"
	p := roomyPattern(read(text))
	events := roomy(typed("xxyzyxy"), api.Event{Key: "k", Type: "y"})
	stages := roomy([][]int{roomy([]int{0, 1}, 9), roomy([]int{2, 3}, 9), roomy([]int{4}, 9)}, []int{5})
	beforeEvents, beforeStages := unfolded(events), deepCopy(stages[:cap(stages)])
	beforeFirst, beforePattern := unfolded(stages[0]), unfolded(p.Stages)
	beforeCond := unfolded(p.Stages[2].Cond)
	found, e := match.Find(p, "k", events)
	plain, _ := match.Find(read(text), "k", typed("xxyzyxy"))
	if e != api.OK || len(found) == 0 || !reflect.DeepEqual(found, plain) {
		t.Error(found, e)
	}
	if ok, e := match.Right(p, events, stages); !ok || e != api.OK {
		t.Error(ok, e)
	}
	if !slices.Equal(unfolded(events), beforeEvents) || !sameStages(stages[:cap(stages)], beforeStages) || !slices.Equal(unfolded(stages[0]), beforeFirst) {
		t.Error("events or stages were changed")
	}
	if !reflect.DeepEqual(unfolded(p.Stages), beforePattern) || !reflect.DeepEqual(unfolded(p.Stages[2].Cond), beforeCond) {
		t.Error("the pattern was changed")
	}
}

// R4: all lists of an answer are its own, room behind them too: what is written into one shows in no other one.
func TestAnswersAreNew(t *testing.T) {
	p, events := read("start a+: 0 < 1; any b+: 0 < 1; any c: 0 < 1; within 9"), typed("xxxxx")
	first, _ := match.Find(p, "k", events)
	second, _ := match.Find(p, "k", events)
	want := stagesOf(first)
	for i := range want {
		want[i] = deepCopy(want[i])
	}
	for i, m := range first {
		for j, places := range m.Stages {
			for k := range places[:cap(places)] {
				places[:cap(places)][k] = -7
			}
			if !sameMatches(stagesOf(first[i+1:]), want[i+1:]) || !sameStages(m.Stages[j+1:], want[i][j+1:]) {
				t.Fatal("lists share memory")
			}
		}
		clear(m.Stages[:cap(m.Stages)])
	}
	clear(first[:cap(first)])
	if !sameMatches(stagesOf(second), want) {
		t.Error("answers share memory")
	}
}

// R7: the same call tells the same.
func TestSameAgain(t *testing.T) {
	p, events := read("start a+: 0 < 1; any b+: a.n0 < n0; within 7"), typed("xxxxxxxxxx")
	want, e := match.Find(p, "k", events)
	if e != api.OK || len(want) == 0 {
		t.Fatal(len(want), e)
	}
	for range 20 {
		if l, e := match.Find(p, "k", events); !reflect.DeepEqual(l, want) || e != api.OK {
			t.Fatal(l, e)
		}
	}
}

// R3: a list without an element may be nil or empty.
func TestNilAndEmpty(t *testing.T) {
	p := read("start a: 0 < 1; within 7")
	for _, events := range [][]api.Event{nil, {}} {
		if l, e := match.Find(p, "k", events); len(l) != 0 || e != api.OK {
			t.Error(l, e)
		}
		for _, stages := range [][][]int{nil, {}} {
			if ok, e := match.Right(p, events, stages); ok || e != api.OK {
				t.Error(ok, e)
			}
		}
	}
}
