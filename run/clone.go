package run

import (
	"slices"
	"strings"

	"weaver/api"
)

func clonedPattern(p api.Pattern) api.Pattern {
	p.Stages = slices.Clone(p.Stages)
	for i := range p.Stages {
		s := &p.Stages[i]
		s.Name = strings.Clone(s.Name)
		s.Cond = slices.Clone(s.Cond)
		for j := range s.Cond {
			x := &s.Cond[j]
			x.S, x.Stage = strings.Clone(x.S), strings.Clone(x.Stage)
		}
	}
	return p
}

func clonedEvent(e api.Event) api.Event {
	e.Key, e.Type, e.Text = strings.Clone(e.Key), strings.Clone(e.Type), strings.Clone(e.Text)
	return e
}

func clonedStages(stages [][]int) [][]int {
	out := make([][]int, len(stages))
	for i, places := range stages {
		out[i] = slices.Clone(places)
	}
	return out
}
