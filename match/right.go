package match

import "weaver/api"

// isAssignment looks whether all places are some of a sequence's, as many as stages may have, and rise.
func isAssignment(p api.Pattern, length int, stages [][]int) bool {
	if len(stages) < 1 || len(stages) > len(p.Stages) {
		return false
	}
	before := -1
	for i, places := range stages {
		if len(places) == 0 || len(places) > 1 && !p.Stages[i].Many {
			return false
		}
		for _, place := range places {
			if place <= before || place >= length {
				return false
			}
			before = place
		}
	}
	return true
}

// isRight is of an assignment. The window is asked first, so that no more than it is gone through.
func isRight(p api.Pattern, events []api.Event, stages [][]int) bool {
	t := newTaken(p, events)
	end := stages[len(stages)-1]
	first, last := stages[0][0], end[len(end)-1]
	if last-first >= p.Within {
		return false
	}
	before := first - 1
	for stage, places := range stages {
		for _, place := range places {
			if !t.mayLie(stage, before, place) || !t.holds(stage, place) {
				return false
			}
			t.put(stage, place)
			before = place
		}
	}
	return true
}

// mayLie looks whether between two places lies only what the stage of the later one lets lie there.
func (t *taken) mayLie(stage, before, place int) bool {
	switch t.p.Stages[stage].How {
	case api.SAny:
		return true
	case api.SThen:
		for between := before + 1; between < place; between++ {
			if t.holds(stage, between) {
				return false
			}
		}
		return true
	}
	return place == before+1
}
