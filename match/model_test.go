package match_test

import (
	"cmp"
	"fmt"
	"math/rand"
	"slices"
	"strings"
	"testing"

	"weaver/api"
	"weaver/pattern"
)

// read is a pattern that may be.
func read(s string) api.Pattern {
	p, f := pattern.Read(s)
	if f != (api.Fault{}) {
		panic(fmt.Sprint(s, f))
	}
	return p
}

// typed is a sequence of the key k, whose events' types are single letters; n0 are their places.
func typed(types string) []api.Event {
	var out []api.Event
	for i := range len(types) {
		out = append(out, api.Event{Key: "k", Type: types[i : i+1], N: [4]int64{int64(i)}})
	}
	return out
}

// modelStage has a condition as a text, and as what it says of an event and of the last events of the
// stages ahead.
type modelStage struct {
	how   int
	many  bool
	text  string
	holds func(now api.Event, lasts []api.Event) bool
}

type modelPattern struct {
	stages []modelStage
	within int
}

var hows = []string{"start", "next", "then", "any"}

func (m modelPattern) String() string {
	var s strings.Builder
	for i, x := range m.stages {
		plus := ""
		if x.many {
			plus = "+"
		}
		fmt.Fprintf(&s, "%s s%d%s: %s; ", hows[x.how], i, plus, x.text)
	}
	fmt.Fprintf(&s, "within %d", m.within)
	return s.String()
}

// right is the chapter's word for word, of an assignment.
func (m modelPattern) right(events []api.Event, stages [][]int) bool {
	var all []int
	var lasts []api.Event
	for i, places := range stages {
		for _, place := range places {
			if !m.stages[i].holds(events[place], lasts) {
				return false
			}
			if len(all) > 0 && !m.between(events[all[len(all)-1]+1:place], i, lasts) {
				return false
			}
			all = append(all, place)
		}
		lasts = append(lasts, events[all[len(all)-1]])
	}
	return slices.Max(all)-slices.Min(all) < m.within
}

func (m modelPattern) between(events []api.Event, later int, lasts []api.Event) bool {
	x := m.stages[later]
	for _, e := range events {
		if x.how == api.SStart || x.how == api.SNext || x.how == api.SThen && x.holds(e, lasts) {
			return false
		}
	}
	return true
}

// assignments are all of them, of some of the first stages, right or not.
func (m modelPattern) assignments(length int) [][][]int {
	var out [][][]int
	var grow func(stages [][]int, from int)
	grow = func(stages [][]int, from int) {
		for place := from; place < length; place++ {
			if n := len(stages); n > 0 && m.stages[n-1].many {
				longer := deepCopy(stages)
				longer[n-1] = append(longer[n-1], place)
				out = append(out, longer)
				grow(longer, place+1)
			}
			if len(stages) < len(m.stages) {
				longer := append(deepCopy(stages), []int{place})
				out = append(out, longer)
				grow(longer, place+1)
			}
		}
	}
	grow(nil, 0)
	return out
}

// matches are in order: by the last place, then as the places and the stages' ends lie.
func (m modelPattern) matches(events []api.Event) [][][]int {
	var out [][][]int
	for _, stages := range m.assignments(len(events)) {
		if len(stages) == len(m.stages) && m.right(events, stages) {
			out = append(out, stages)
		}
	}
	slices.SortFunc(out, func(a, b [][]int) int {
		return cmp.Or(cmp.Compare(lastPlace(a), lastPlace(b)), slices.Compare(row(a), row(b)))
	})
	return out
}

// row is all places, with each stage's end as a -1: a stage that ends is ahead of one that goes on.
func row(stages [][]int) []int {
	var out []int
	for _, places := range stages {
		out = append(append(out, places...), -1)
	}
	return out
}

func lastPlace(stages [][]int) int {
	l := stages[len(stages)-1]
	return l[len(l)-1]
}

func deepCopy(stages [][]int) [][]int {
	var out [][]int
	for _, places := range stages {
		out = append(out, slices.Clone(places))
	}
	return out
}

func stagesOf(l []api.Match) [][][]int {
	var out [][][]int
	for _, m := range l {
		out = append(out, m.Stages)
	}
	return out
}

func sameStages(a, b [][]int) bool {
	return slices.EqualFunc(a, b, slices.Equal[[]int])
}

func sameMatches(a, b [][][]int) bool {
	return slices.EqualFunc(a, b, sameStages)
}

// plain conditions ask for no stage.
func plain() []modelStage {
	ofType := func(name string) modelStage {
		return modelStage{text: "type == '" + name + "'", holds: func(now api.Event, _ []api.Event) bool { return now.Type == name }}
	}
	always := modelStage{text: "0 < 1", holds: func(api.Event, []api.Event) bool { return true }}
	return []modelStage{ofType("x"), ofType("y"), always}
}

// someStage asks for some of the stages ahead, or for none.
func someStage(r *rand.Rand, ahead int) modelStage {
	kind := r.Intn(8)
	if ahead == 0 || kind < 3 {
		return plain()[kind%3]
	}
	a, b := r.Intn(ahead), r.Intn(ahead)
	switch kind {
	case 3:
		return modelStage{text: fmt.Sprintf("type == s%d.type", a), holds: func(now api.Event, l []api.Event) bool { return now.Type == l[a].Type }}
	case 4:
		return modelStage{text: fmt.Sprintf("not type == s%d.type", a), holds: func(now api.Event, l []api.Event) bool { return now.Type != l[a].Type }}
	case 5:
		return modelStage{text: fmt.Sprintf("s%d.n1 <= n1", a), holds: func(now api.Event, l []api.Event) bool { return l[a].N[1] <= now.N[1] }}
	case 6:
		return modelStage{text: fmt.Sprintf("s%d.n1 + s%d.n1 != n1", a, b), holds: func(now api.Event, l []api.Event) bool { return l[a].N[1]+l[b].N[1] != now.N[1] }}
	}
	return modelStage{text: fmt.Sprintf("s%d.n1 == s%d.n1 or type == 'x'", a, b), holds: func(now api.Event, l []api.Event) bool { return l[a].N[1] == l[b].N[1] || now.Type == "x" }}
}

func someHow(r *rand.Rand, stage int) int {
	if stage == 0 {
		return api.SStart
	}
	return []int{api.SNext, api.SThen, api.SAny}[r.Intn(3)]
}

func somePattern(r *rand.Rand, most int) modelPattern {
	m := modelPattern{within: 1 + r.Intn(9)}
	for i := range 1 + r.Intn(most) {
		s := someStage(r, i)
		s.how, s.many = someHow(r, i), r.Intn(2) == 0
		m.stages = append(m.stages, s)
	}
	return m
}

func someEvents(r *rand.Rand, length int) []api.Event {
	out := make([]api.Event, length)
	for i := range out {
		out[i] = api.Event{Key: "k", Type: "xyz"[r.Intn(3):][:1], N: [4]int64{int64(i), int64(r.Intn(3))}}
	}
	return out
}

// The model tells the chapter's examples, and chapter 2's of the order.
func TestModel(t *testing.T) {
	l := plain()
	m := modelPattern{stages: []modelStage{l[0], l[1]}, within: 9}
	m.stages[1].many = true
	for how, want := range map[int][][][]int{
		api.SNext: {{{0}, {1}}},
		api.SThen: {{{0}, {1}}, {{0}, {1, 3}}},
		api.SAny:  {{{0}, {1}}, {{0}, {1, 3}}, {{0}, {3}}},
	} {
		m.stages[1].how = how
		if got := m.matches(typed("xyzy")); !sameMatches(got, want) {
			t.Error(how, got)
		}
	}
	if slices.Compare(row([][]int{{0, 1}, {3}}), row([][]int{{0}, {1, 3}})) != 1 {
		t.Error("(0, 1), (3) stands behind (0), (1, 3)")
	}
}
