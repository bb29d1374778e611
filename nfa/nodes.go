package nfa

import "weaver/api"

// both are what a road can be, in the order in which nodes are told: an open one is ahead.
var both = [2]bool{true, false}

// reached are the nodes that come out of the pattern's beginnings, however events hold. Those seen
// are not gone through again, so that the search ends though nodes come out of one another in rings.
func reached(p api.Pattern) map[api.Node]struct{} {
	seen := map[api.Node]struct{}{}
	var waiting []api.Node
	for i := range p.Stages {
		waiting = append(waiting, taken(p, i+1))
	}
	for len(waiting) > 0 {
		n := waiting[0]
		waiting = waiting[1:]
		if _, ok := seen[n]; !ok {
			seen[n] = struct{}{}
			waiting = append(waiting, behind(p, n)...)
		}
	}
	return seen
}

// behind are the nodes that one event can lead to, some of them more than once.
func behind(p api.Pattern, n api.Node) []api.Node {
	var l []api.Node
	for _, loop := range both {
		for _, take := range both {
			s := step(p, n, loop, take)
			if s.CanLoop {
				l = append(l, s.Loop)
			}
			if s.CanTake {
				l = append(l, s.Take)
			}
			if s.CanWait {
				l = append(l, s.Wait)
			}
		}
	}
	return l
}

// inOrder asks for each node by its turn, since a map has no order of its own.
func inOrder(p api.Pattern, seen map[api.Node]struct{}) []api.Node {
	l := make([]api.Node, 0, len(seen))
	for i := range p.Stages {
		for _, loop := range both {
			for _, take := range both {
				n := api.Node{Stage: i + 1, Loop: loop, Take: take}
				if _, ok := seen[n]; ok {
					l = append(l, n)
				}
			}
		}
	}
	return l
}
