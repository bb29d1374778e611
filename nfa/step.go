package nfa

import "weaver/api"

// The functions here are of a pattern that may be, and of a node of it that may be, unless they ask
// for that themselves.

func isStage(p api.Pattern, stage int) bool { return stage >= 1 && stage <= len(p.Stages) }

func mayBe(p api.Pattern, n api.Node) bool {
	if !isStage(p, n.Stage) {
		return false
	}
	most := taken(p, n.Stage)
	return (most.Loop || !n.Loop) && (most.Take || !n.Take)
}

func isDead(n api.Node) bool { return n == api.Node{Stage: n.Stage} }

// taken is the node behind an event that was taken into the stage.
func taken(p api.Pattern, stage int) api.Node {
	return api.Node{Stage: stage, Loop: p.Stages[stage-1].Many, Take: stage < len(p.Stages)}
}

// passed is the node behind an event that was not taken, dead or not.
func passed(p api.Pattern, n api.Node, loop, take bool) api.Node {
	if n.Loop {
		n.Loop = staysOpen(p.Stages[n.Stage-1].How, loop)
	}
	if n.Take {
		n.Take = staysOpen(p.Stages[n.Stage].How, take)
	}
	return n
}

// staysOpen is of a road to a stage that follows so, when an event that holds there or not was not
// taken.
func staysOpen(how int, holds bool) bool {
	return how == api.SAny || how == api.SThen && !holds
}

func step(p api.Pattern, n api.Node, loop, take bool) api.Steps {
	var s api.Steps
	if n.Loop && loop {
		s.CanLoop, s.Loop = true, taken(p, n.Stage)
	}
	if n.Take && take {
		s.CanTake, s.Take = true, taken(p, n.Stage+1)
	}
	if wait := passed(p, n, loop, take); !isDead(wait) {
		s.CanWait, s.Wait = true, wait
	}
	return s
}
