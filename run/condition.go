package run

import (
	"weaver/api"
	"weaver/expr"
	"weaver/nfa"
)

// condition tells whether an event meets that of a stage (from 0 on), with the last events of the
// stages ahead, which stand at the front of lasts.
type condition func(stage int, now api.Event, lasts []api.Event) bool

// conditionOf is of a pattern that nobody changes any more.
func conditionOf(p api.Pattern) condition {
	names := make([]string, len(p.Stages))
	for i, s := range p.Stages {
		names[i] = s.Name
	}
	return func(stage int, now api.Event, lasts []api.Event) bool {
		ok, _ := expr.Holds(p.Stages[stage].Cond, now, names[:stage], lasts[:stage])
		return ok
	}
}

// crossing is where a partial match stands when an event comes, and whether that holds for its last
// stage, and for the next one.
type crossing struct {
	node       api.Node
	loop, take bool
}

// stepsOf are the steps from all crossings from which there are some. The layer below is asked once
// for all, since it looks at the whole pattern each time.
func stepsOf(p api.Pattern) map[crossing]api.Steps {
	out := map[crossing]api.Steps{}
	first, _ := nfa.Begun(p, 1)
	out[crossing{node: beginning().node, take: true}] = api.Steps{CanTake: true, Take: first}
	for i := range p.Stages {
		most, _ := nfa.Begun(p, i+1)
		for _, loop := range upTo(most.Loop) {
			for _, take := range upTo(most.Take) {
				addSteps(out, p, api.Node{Stage: i + 1, Loop: loop, Take: take})
			}
		}
	}
	return out
}

func addSteps(out map[crossing]api.Steps, p api.Pattern, n api.Node) {
	for _, loop := range upTo(n.Loop) {
		for _, take := range upTo(n.Take) {
			if s, _ := nfa.Step(p, n, loop, take); s != (api.Steps{}) {
				out[crossing{node: n, loop: loop, take: take}] = s
			}
		}
	}
}

// upTo is what a truth can be that may hold, or not.
func upTo(most bool) []bool {
	if most {
		return []bool{false, true}
	}
	return []bool{false}
}
