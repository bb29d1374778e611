package run_test

import (
	"fmt"
	"reflect"
	"runtime"
	"slices"
	"strings"
	"testing"

	"weaver/api"
	"weaver/match"
	"weaver/run"
)

// roomy has behind its length what must not be read nor written.
func roomy[T any](l []T, behind T) []T {
	out := make([]T, 0, len(l)+3)
	out = append(append(out, l...), behind, behind, behind)
	return out[:len(l)]
}

// roomyPattern has room behind all its lists.
func roomyPattern(p api.Pattern) api.Pattern {
	for i, s := range p.Stages {
		p.Stages[i].Cond = roomy(s.Cond, api.Part{Kind: 77})
	}
	p.Stages = roomy(p.Stages, api.Stage{Name: "behind"})
	return p
}

// spoil writes into all of a pattern that is handed in, behind its lists too.
func spoil(p api.Pattern) {
	for i := range p.Stages {
		cond := p.Stages[i].Cond
		for j := range cond[:cap(cond)] {
			cond[:cap(cond)][j] = api.Part{Kind: 99}
		}
	}
	clear(p.Stages[:cap(p.Stages)])
}

const againPattern = "start a+: type == 'x'; any b+: a.n0 < n0; then c: b.n0 < n0 and type == 'y'; within 9"

// R4: a pattern that is handed in is neither changed nor kept.
func TestPatternIsNotKept(t *testing.T) {
	events := typed("xxyzyxy")
	begin := []func(p api.Pattern) *run.Run{
		func(p api.Pattern) *run.Run { return begun(t, p) },
		func(p api.Pattern) *run.Run { return loaded(t, p, saved(t, begun(t, read(againPattern)))) },
	}
	for _, f := range begin {
		p := roomyPattern(read(againPattern))
		r, other := f(p), begun(t, read(againPattern))
		if !reflect.DeepEqual(p, read(againPattern)) || p.Stages[:cap(p.Stages)][len(p.Stages)].Name != "behind" {
			t.Error("the pattern was changed")
		}
		spoil(p)
		for _, x := range events {
			got, e := r.Feed(x)
			want, _ := other.Feed(x)
			if e != api.OK || !reflect.DeepEqual(got, want) || !reflect.DeepEqual(r.Partials(), other.Partials()) {
				t.Fatal(got, e, want)
			}
		}
		if r.Live() == 0 || saved(t, r) != saved(t, other) {
			t.Error("saved otherwise")
		}
	}
}

// spoilLists writes into all lists of an answer, behind their lengths too, and looks whether one shows in another.
func spoilLists(t *testing.T, l [][][]int) {
	t.Helper()
	var want [][][]int
	for _, stages := range l {
		want = append(want, deepCopy(stages))
	}
	for i, stages := range l {
		for j, places := range stages {
			for k := range places[:cap(places)] {
				places[:cap(places)][k] = -7
			}
			if !sameStages(stages[j+1:], want[i][j+1:]) || !sameLists(l[i+1:], want[i+1:]) {
				t.Fatal("lists share memory")
			}
		}
		for j := range stages[:cap(stages)] {
			stages[:cap(stages)][j] = nil
		}
		if !sameLists(l[i+1:], want[i+1:]) {
			t.Fatal("lists share memory")
		}
	}
	clear(l[:cap(l)])
}

// R4: what is told is new memory: who writes into it changes neither the run nor another answer.
func TestAnswersAreNew(t *testing.T) {
	p := read("start a+: 0 < 1; any b+: 0 < 1; any c+: 0 < 1; within 6")
	spoilt, other := begun(t, p), begun(t, p)
	for _, x := range typed("xxxxxxxx") {
		l, e := spoilt.Feed(x)
		want, _ := other.Feed(x)
		if e != api.OK || !reflect.DeepEqual(l, want) {
			t.Fatal(e)
		}
		first, second := spoilt.Partials(), spoilt.Partials()
		spoilLists(t, stagesOf(l))
		clear(l[:cap(l)])
		spoilLists(t, first)
		if !sameLists(second, other.Partials()) || !sameLists(spoilt.Partials(), second) {
			t.Fatal("answers share memory")
		}
		if saved(t, spoilt) != saved(t, other) {
			t.Fatal("the run was changed")
		}
	}
}

// R4, 15.5: a run that is loaded and the one that was saved do not know of each other.
func TestRunsAreApart(t *testing.T) {
	p := read(againPattern)
	r := fed(t, p, typed("xxy"))
	b := saved(t, r)
	one, two := loaded(t, p, b), loaded(t, p, b)
	for _, x := range typed("zyxyyx") {
		one.Feed(x)
	}
	if saved(t, r) != b || saved(t, two) != b || saved(t, one) == b {
		t.Error("one run changed another one")
	}
}

// R7: the same again, of runs in the same state; asking changes nothing.
func TestSameAgain(t *testing.T) {
	p := read(againPattern)
	want := fed(t, p, typed("xxyzyx"))
	for range 20 {
		r := fed(t, p, typed("xxyzyx"))
		for range 3 {
			if r.Seen() != want.Seen() || r.Live() != want.Live() || saved(t, r) != saved(t, want) || !reflect.DeepEqual(r.Partials(), want.Partials()) {
				t.Fatal("told otherwise")
			}
		}
	}
}

// 15.5: what is kept does not grow with what was seen: neither the bytes nor the memory.
func TestKeepsNoMore(t *testing.T) {
	p := read("start a: type == 'x'; any b+: type == 'y'; any c: type == 'z'; within 12")
	r := begun(t, p)
	long := strings.Repeat("t", api.MaxText)
	feed := func(n int) {
		for range n {
			for _, x := range typed("xywwyzwy") {
				x.Text = strings.Clone(long)
				if _, e := r.Feed(x); e != api.OK {
					t.Fatal(e)
				}
			}
		}
	}
	feed(10)
	bytes, memory := len(saved(t, r)), heap()
	feed(10000)
	if b := len(saved(t, r)); b > bytes+100 {
		t.Error(bytes, b)
	}
	if more := int64(heap()) - int64(memory); more > 1<<20 {
		t.Error(more)
	}
	runtime.KeepAlive(r)
}

func heap() uint64 {
	var m runtime.MemStats
	runtime.GC()
	runtime.GC()
	runtime.ReadMemStats(&m)
	return m.HeapAlloc
}

// P1: as many stages as may be, all of which take all events, and conditions as great as they may be.
func TestEnds(t *testing.T) {
	part := "(0 < 1" + strings.Repeat(" and n0 != 7", 23) + ")"
	for _, how := range []string{"next", "then", "any"} {
		s := "start s0+: " + part + " and " + part + "; "
		for i := 1; i < api.MaxStages; i++ {
			s += fmt.Sprintf("%s s%d+: %s and %s; ", how, i, part, part)
		}
		p := read(s + "within 256")
		r := begun(t, p)
		refused := 0
		for range 40 {
			if _, e := r.Feed(api.Event{Key: "k", Type: "x"}); e == api.ErrMany {
				refused++
			} else if e != api.OK {
				t.Fatal(e)
			}
		}
		if refused == 0 || r.Live() == 0 || r.Seen() != 40-refused {
			t.Error(how, refused, r.Live(), r.Seen())
		}
	}
}

// 15.4: windows as wide as they may be, over as many events as chapter 14 takes.
func TestWidest(t *testing.T) {
	types := strings.Repeat("x"+strings.Repeat("w", 254)+"y"+"z", 15)
	events := typed(types[:min(len(types), api.MaxItems)])
	for _, p := range []string{
		"start a: type == 'x'; then b: type == 'y'; within 256",
		"start a: type == 'x'; then b: type == 'z'; within 256",
		"start a: type == 'x'; any b: type == 'w'; any c: type == 'y'; within 256",
		"start a+: 0 < 1; next b: type == 'x'; within 256",
	} {
		var told []api.Match
		r := begun(t, read(p))
		for _, x := range events {
			l, e := r.Feed(x)
			if e != api.OK {
				t.Fatal(p, e)
			}
			told = append(told, l...)
		}
		l, e := match.Find(read(p), "k", events)
		if e != api.OK || !slices.EqualFunc(l, told, func(a, b api.Match) bool { return reflect.DeepEqual(a, b) }) {
			t.Error(p, len(l), len(told), e)
		}
	}
}
