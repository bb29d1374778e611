package match

import (
	"iter"
	"slices"

	"weaver/api"
)

// search goes through all right assignments, one place behind the other. Many of them may come to
// the same end, and more than could ever be gone through may come to none; so it notes the spots from
// which no match came, by their last places, and does not go on from such a one again.
type search struct {
	*taken
	truths *truths
	roads  [][]road
	dead   []map[spot]struct{}
	end    int
	told   int
}

// spot is all that matches along a road hang on, but for the last place and the window's end: the
// road, and the last places of the stages ahead that conditions can still ask for.
type spot struct {
	from, to int16
	asked    [api.MaxStages]int16
}

// matches are those of the sequence, each once, in no order that anybody may lean on.
func matches(p api.Pattern, events []api.Event) iter.Seq[[][]int] {
	return func(yield func([][]int) bool) {
		newSearch(p, events).all(yield)
	}
}

func newSearch(p api.Pattern, events []api.Event) *search {
	t := newTaken(p, events)
	return &search{
		taken:  t,
		truths: newTruths(t),
		roads:  roadsOf(p),
		dead:   make([]map[spot]struct{}, len(events)),
	}
}

// all begins at the last place and goes to the front: the window's end falls then and never rises, so
// that a spot from which no match came stays such a one.
func (s *search) all(yield func([][]int) bool) {
	for first := len(s.events) - 1; first >= 0; first-- {
		s.end = min(first+s.p.Within, len(s.events))
		if s.end < len(s.events) {
			s.dead[s.end] = nil
		}
		if s.truths.holds(0, first) && !s.into(0, first, yield) {
			return
		}
	}
}

// into yields all matches that begin with what is taken and with the place for the stage, and leaves
// the assignment as it was. It tells whether more are asked for, as all that yield do here.
func (s *search) into(stage, place int, yield func([][]int) bool) bool {
	s.put(stage, place)
	more := s.here(stage, yield)
	for _, r := range s.roads[stage] {
		more = more && s.along(r, place, yield)
	}
	s.back()
	return more
}

// here yields what is taken, if that is a match.
func (s *search) here(stage int, yield func([][]int) bool) bool {
	if stage+1 < len(s.p.Stages) {
		return true
	}
	s.told++
	return yield(copied(s.places))
}

// along yields all matches whose next place lies on the road.
func (s *search) along(r road, last int, yield func([][]int) bool) bool {
	here := s.spot(r)
	if _, ok := s.dead[last][here]; ok {
		return true
	}
	before := s.told
	if !s.walk(r, last, yield) {
		return false
	}
	if s.told == before {
		s.bury(last, here)
	}
	return true
}

func (s *search) walk(r road, last int, yield func([][]int) bool) bool {
	for place := last + 1; place < s.end; place++ {
		open := r.openElse
		if s.truths.holds(r.to, place) {
			open = r.openHeld
			before := s.told
			if !s.into(r.to, place, yield) {
				return false
			}
			// What a stage takes later on, this place's own loop leads to, too: if that came to
			// nothing, so does the rest of the road.
			if r.from == r.to && s.told == before {
				return true
			}
		}
		if !open {
			return true
		}
	}
	return true
}

func (s *search) spot(r road) spot {
	here := spot{from: int16(r.from), to: int16(r.to)}
	for _, stage := range r.asked {
		here.asked[stage] = int16(s.last(stage))
	}
	return here
}

func (s *search) bury(last int, here spot) {
	if s.dead[last] == nil {
		s.dead[last] = map[spot]struct{}{}
	}
	s.dead[last][here] = struct{}{}
}

func copied(stages [][]int) [][]int {
	out := make([][]int, len(stages))
	for i, places := range stages {
		out[i] = slices.Clone(places)
	}
	return out
}
