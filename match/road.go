package match

import (
	"slices"

	"weaver/api"
	"weaver/expr"
	"weaver/nfa"
)

// road leads from a stage that has an event to the next one: of the same stage, or of the one behind
// it. It may stay open behind an event that was not taken: one that held for it, or another one.
type road struct {
	from, to           int
	openHeld, openElse bool
	asked              []int
}

// roadsOf are of each stage those that are open behind its events. The layer below is asked here
// once for all, since it looks at the whole pattern each time.
func roadsOf(p api.Pattern) [][]road {
	out := make([][]road, len(p.Stages))
	for i := range p.Stages {
		n, _ := nfa.Begun(p, i+1)
		if n.Loop {
			out[i] = append(out[i], roadOf(p, i, i))
		}
		if n.Take {
			out[i] = append(out[i], roadOf(p, i, i+1))
		}
	}
	return out
}

// roadOf asks of a node that has this road alone.
func roadOf(p api.Pattern, from, to int) road {
	n := api.Node{Stage: from + 1, Loop: from == to, Take: from != to}
	held, _ := nfa.Step(p, n, n.Loop, n.Take)
	other, _ := nfa.Step(p, n, false, false)
	return road{
		from:     from,
		to:       to,
		openHeld: held.CanWait,
		openElse: other.CanWait,
		asked:    askedBehind(p, from, to),
	}
}

// askedBehind are the stages ahead of the road's beginning for which conditions from its end on ask.
func askedBehind(p api.Pattern, from, to int) []int {
	var out []int
	for _, s := range p.Stages[to:] {
		for _, stage := range stagesAsked(p, s) {
			if stage < from && !slices.Contains(out, stage) {
				out = append(out, stage)
			}
		}
	}
	return out
}

// stagesAsked are the numbers of the stages that a stage's condition asks for.
func stagesAsked(p api.Pattern, s api.Stage) []int {
	names, _ := expr.Stages(s.Cond)
	var out []int
	for _, name := range names {
		out = append(out, slices.IndexFunc(p.Stages, func(s api.Stage) bool { return s.Name == name }))
	}
	return out
}
