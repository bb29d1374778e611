package run_test

import (
	"fmt"
	"math/rand"
	"slices"
	"testing"

	"weaver/api"
	"weaver/event"
	"weaver/expr"
	"weaver/match"
	"weaver/pack"
	"weaver/pattern"
	"weaver/run"
)

// read is a pattern that may be.
func read(s string) api.Pattern {
	p, f := pattern.Read(s)
	if f != (api.Fault{}) {
		panic(fmt.Sprint(s, f))
	}
	return p
}

// typed is a sequence of the key k, whose events' types are single letters; n0 are their places.
func typed(types string) []api.Event {
	var out []api.Event
	for i := range len(types) {
		out = append(out, api.Event{Key: "k", Type: types[i : i+1], N: [4]int64{int64(i)}})
	}
	return out
}

func begun(t *testing.T, p api.Pattern) *run.Run {
	t.Helper()
	r, e := run.New(p, "k")
	if e != api.OK {
		t.Fatal(e)
	}
	return r
}

// fed is a run that has seen all the events, none of which it may refuse.
func fed(t *testing.T, p api.Pattern, events []api.Event) *run.Run {
	t.Helper()
	r := begun(t, p)
	for i, x := range events {
		if _, e := r.Feed(x); e != api.OK {
			t.Fatal(i, e)
		}
	}
	return r
}

func saved(t *testing.T, r *run.Run) string {
	t.Helper()
	b, e := r.Save()
	if e != api.OK {
		t.Fatal(e)
	}
	return b
}

func stagesOf(l []api.Match) [][][]int {
	var out [][][]int
	for _, m := range l {
		out = append(out, m.Stages)
	}
	return out
}

func sameStages(a, b [][]int) bool {
	return slices.EqualFunc(a, b, slices.Equal[[]int])
}

func sameLists(a, b [][][]int) bool {
	return slices.EqualFunc(a, b, sameStages)
}

func deepCopy(stages [][]int) [][]int {
	var out [][]int
	for _, places := range stages {
		out = append(out, slices.Clone(places))
	}
	return out
}

// row is all places, with each stage's end as a -1: a stage that ends is ahead of one that goes on, and
// fewer stages are ahead of more.
func row(stages [][]int) []int {
	var out []int
	for _, places := range stages {
		out = append(append(out, places...), -1)
	}
	return out
}

func byRow(a, b [][]int) int { return slices.Compare(row(a), row(b)) }

func lastPlace(stages [][]int) int {
	l := stages[len(stages)-1]
	return l[len(l)-1]
}

// model knows all events, and asks of each assignment whether it is one that the chapter means.
type model struct {
	p      api.Pattern
	events []api.Event
	right  [][][]int
}

// modelOf goes through all right assignments: the beginnings of a right one are right.
func modelOf(p api.Pattern, events []api.Event) *model {
	m := &model{p: p, events: events}
	m.grow(nil, 0)
	slices.SortFunc(m.right, byRow)
	return m
}

func (m *model) grow(stages [][]int, from int) {
	for place := from; place < len(m.events); place++ {
		if n := len(stages); n > 0 {
			longer := deepCopy(stages)
			longer[n-1] = append(longer[n-1], place)
			m.note(longer, place)
		}
		m.note(append(deepCopy(stages), []int{place}), place)
	}
}

func (m *model) note(stages [][]int, place int) {
	if ok, _ := match.Right(m.p, m.events, stages); ok {
		m.right = append(m.right, stages)
		m.grow(stages, place+1)
	}
}

// meets is of a stage from 0 on, and of an assignment that has the stages ahead.
func (m *model) meets(stage int, now api.Event, stages [][]int) bool {
	var names []string
	var lasts []api.Event
	for i := range stage {
		names = append(names, m.p.Stages[i].Name)
		lasts = append(lasts, m.events[stages[i][len(stages[i])-1]])
	}
	ok, e := expr.Holds(m.p.Stages[stage].Cond, now, names, lasts)
	if e != api.OK {
		panic(e)
	}
	return ok
}

// roads are chapter 13's, with n events seen: what all events behind the last place leave open.
func (m *model) roads(stages [][]int, n int) (loop, take bool) {
	k := len(stages)
	loop, take = m.p.Stages[k-1].Many, k < len(m.p.Stages)
	for _, x := range m.events[lastPlace(stages)+1 : n] {
		loop = loop && m.leavesOpen(k-1, x, stages)
		take = take && m.leavesOpen(k, x, stages)
	}
	return loop, take
}

func (m *model) leavesOpen(stage int, x api.Event, stages [][]int) bool {
	switch m.p.Stages[stage].How {
	case api.SAny:
		return true
	case api.SThen:
		return !m.meets(stage, x, stages)
	}
	return false
}

// partials are those with n events seen, in order.
func (m *model) partials(n int) [][][]int {
	var out [][][]int
	for _, stages := range m.right {
		if lastPlace(stages) >= n || n-stages[0][0] >= m.p.Within {
			continue
		}
		if loop, take := m.roads(stages, n); loop || take {
			out = append(out, stages)
		}
	}
	return out
}

// ended are the matches whose last place is that of the n-th event, in order.
func (m *model) ended(n int) [][][]int {
	var out [][][]int
	for _, stages := range m.right {
		if len(stages) == len(m.p.Stages) && lastPlace(stages) == n-1 {
			out = append(out, stages)
		}
	}
	return out
}

func number(n int) api.Item { return api.Item{N: int64(n)} }

func text(s string) api.Item { return api.Item{Text: true, S: s} }

func open(road bool) api.Item {
	if road {
		return number(1)
	}
	return number(0)
}

// items are those of the run's bytes, with n events seen.
func (m *model) items(n int) []api.Item {
	l := m.partials(n)
	out := []api.Item{text("k"), number(n), number(len(l))}
	for _, stages := range l {
		out = append(out, number(len(stages)))
		for _, places := range stages {
			out = append(out, number(len(places)))
			for _, place := range places {
				out = append(out, number(place))
			}
			b, _ := event.Encode(m.events[places[len(places)-1]])
			out = append(out, text(b))
		}
		loop, take := m.roads(stages, n)
		out = append(out, open(loop), open(take))
	}
	return out
}

// wantAsModel holds a run against the model, event by event; and so a run that was saved and loaded
// behind the event ahead, where the bytes are not too many.
func wantAsModel(t *testing.T, p api.Pattern, events []api.Event) {
	t.Helper()
	m := modelOf(p, events)
	runs := []*run.Run{begun(t, p), begun(t, p)}
	for n := range len(events) + 1 {
		for _, r := range runs {
			if n > 0 {
				wantEnded(t, m, r, n)
			}
			wantState(t, m, r, n)
		}
		if b, e := runs[1].Save(); e == api.OK {
			runs[1] = loaded(t, p, b)
			wantState(t, m, runs[1], n)
		}
	}
}

// wantEnded feeds the n-th event.
func wantEnded(t *testing.T, m *model, r *run.Run, n int) {
	t.Helper()
	l, e := r.Feed(m.events[n-1])
	if e != api.OK || !sameLists(stagesOf(l), m.ended(n)) {
		t.Fatalf("%s: %v behind %d: %v, %d, want %v", written(m.p), types(m.events), n, l, e, m.ended(n))
	}
}

func wantState(t *testing.T, m *model, r *run.Run, n int) {
	t.Helper()
	want := m.partials(n)
	if got := r.Partials(); !sameLists(got, want) || r.Live() != len(want) || r.Seen() != n {
		t.Fatalf("%s: %v: %v, %d, seen %d, want %v behind %d", written(m.p), types(m.events), got, r.Live(), r.Seen(), want, n)
	}
	wantBytes, wantErr := pack.Encode(m.items(n))
	if b, e := r.Save(); b != wantBytes || e != wantErr {
		t.Fatalf("%s: %v behind %d: other bytes, %d, want %d", written(m.p), types(m.events), n, e, wantErr)
	}
}

func written(p api.Pattern) string {
	s, _ := pattern.Write(p)
	return s
}

func types(events []api.Event) (s string) {
	for _, x := range events {
		s += x.Type
	}
	return s
}

// someCond asks for some of the stages ahead, or for none.
func someCond(r *rand.Rand, ahead int) string {
	kind := r.Intn(8)
	if ahead == 0 {
		kind %= 3
	}
	a, b := r.Intn(max(ahead, 1)), r.Intn(max(ahead, 1))
	switch kind {
	case 0:
		return "type == 'x'"
	case 1:
		return "type == 'y'"
	case 2:
		return "0 < 1"
	case 3:
		return fmt.Sprintf("type == s%d.type", a)
	case 4:
		return fmt.Sprintf("not type == s%d.type", a)
	case 5:
		return fmt.Sprintf("s%d.n1 <= n1", a)
	case 6:
		return fmt.Sprintf("s%d.n1 + s%d.n1 != n1", a, b)
	}
	return fmt.Sprintf("s%d.n1 == s%d.n1 or type == 'x'", a, b)
}

func somePattern(r *rand.Rand, stages, within int) api.Pattern {
	s := ""
	for i := range 1 + r.Intn(stages) {
		how := []string{"next", "then", "any"}[r.Intn(3)]
		if i == 0 {
			how = "start"
		}
		s += fmt.Sprintf("%s s%d%s: %s; ", how, i, []string{"", "+"}[r.Intn(2)], someCond(r, i))
	}
	return read(s + fmt.Sprintf("within %d", 1+r.Intn(within)))
}

func someEvents(r *rand.Rand, length int) []api.Event {
	out := make([]api.Event, length)
	for i := range out {
		out[i] = api.Event{Key: "k", Type: "xyz"[r.Intn(3):][:1], N: [4]int64{int64(i), int64(r.Intn(3))}, Text: "t"[r.Intn(2):]}
	}
	return out
}
