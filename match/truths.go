package match

const (
	unknown = iota
	untrue
	isTrue
)

// truths notes what conditions said of events, so that they are asked once, though a search comes by
// again and again. Of a condition that asks for several stages nothing is noted: it may be asked of
// more events than there is room for.
type truths struct {
	*taken
	asked [][]int
	notes [][]int8
}

func newTruths(t *taken) *truths {
	x := &truths{taken: t}
	for _, s := range t.p.Stages {
		asked := stagesAsked(t.p, s)
		var notes []int8
		if len(asked) <= 1 {
			notes = make([]int8, len(t.events)*t.p.Within)
		}
		x.asked = append(x.asked, asked)
		x.notes = append(x.notes, notes)
	}
	return x
}

func (x *truths) holds(stage, place int) bool {
	if x.notes[stage] == nil {
		return x.taken.holds(stage, place)
	}
	note := &x.notes[stage][place*x.p.Within+x.apart(stage, place)]
	if *note == unknown {
		*note = untrue
		if x.taken.holds(stage, place) {
			*note = isTrue
		}
	}
	return *note == isTrue
}

// apart is how far the last event that the stage's condition asks for lies ahead of the place, which
// is less than the window; 0, if it asks for none.
func (x *truths) apart(stage, place int) int {
	if len(x.asked[stage]) == 0 {
		return 0
	}
	return place - x.last(x.asked[stage][0])
}
