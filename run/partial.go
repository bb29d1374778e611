package run

import (
	"slices"

	"weaver/api"
)

// partial is a partial match, or the beginning of all, which has no stages yet: of each stage the
// places and the last event. Its lists are never written again, so that those that grew out of one
// partial match may share them.
type partial struct {
	stages [][]int
	lasts  []api.Event
	node   api.Node
}

// beginning is what an event goes on from that begins a match: its road to the first stage is open
// at each event.
func beginning() partial {
	return partial{node: api.Node{Take: true}}
}

// with is the partial match that takes the event, too, and comes to the node: into its last stage,
// or, if it has not as many yet, into the next one.
func (x partial) with(place int, now api.Event, n api.Node) partial {
	var ahead []int
	if n.Stage == len(x.stages) {
		ahead = x.stages[n.Stage-1]
	}
	done := n.Stage - 1
	return partial{
		stages: slices.Concat(x.stages[:done], [][]int{slices.Concat(ahead, []int{place})}),
		lasts:  slices.Concat(x.lasts[:done], []api.Event{now}),
		node:   n,
	}
}

// mayGoOn is of one that has stages, behind the first events that were seen.
func (x partial) mayGoOn(seen, within int) bool {
	return (x.node.Loop || x.node.Take) && seen-x.stages[0][0] < within
}

// inOrder is the order of matches, too, that end at one place.
func inOrder(a, b partial) int {
	return slices.CompareFunc(a.stages, b.stages, slices.Compare[[]int])
}
