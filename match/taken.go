package match

import (
	"weaver/api"
	"weaver/expr"
)

// taken is an assignment that grows and shrinks at its end, with the last event of each stage, which
// is all that conditions ask for.
type taken struct {
	p      api.Pattern
	events []api.Event
	names  []string
	places [][]int
	lasts  []api.Event
}

func newTaken(p api.Pattern, events []api.Event) *taken {
	t := &taken{p: p, events: events}
	for _, s := range p.Stages {
		t.names = append(t.names, s.Name)
	}
	return t
}

// put gives one place more to the last stage that has some, or the first one to the next stage.
func (t *taken) put(stage, place int) {
	if stage == len(t.places) {
		t.places = append(t.places, nil)
		t.lasts = append(t.lasts, api.Event{})
	}
	t.places[stage] = append(t.places[stage], place)
	t.lasts[stage] = t.events[place]
}

// back takes away what was put last.
func (t *taken) back() {
	stage := len(t.places) - 1
	left := t.places[stage][:len(t.places[stage])-1]
	if len(left) == 0 {
		t.places, t.lasts = t.places[:stage], t.lasts[:stage]
		return
	}
	t.places[stage] = left
	t.lasts[stage] = t.events[left[len(left)-1]]
}

// last is the last place of a stage that has some.
func (t *taken) last(stage int) int {
	l := t.places[stage]
	return l[len(l)-1]
}

// holds asks the stage's condition of the event at the place. The stages ahead must have events.
func (t *taken) holds(stage, place int) bool {
	ok, _ := expr.Holds(t.p.Stages[stage].Cond, t.events[place], t.names[:stage], t.lasts[:stage])
	return ok
}
