package match_test

import (
	"math"
	"math/rand"
	"testing"

	"weaver/api"
	"weaver/match"
)

func wantRight(t *testing.T, p, types string, want bool, stages ...[]int) {
	t.Helper()
	if ok, e := match.Right(read(p), typed(types), stages); ok != want || e != api.OK {
		t.Errorf("%s over %s, %v: %v, %d, want %v", p, types, stages, ok, e, want)
	}
}

const exampleThen = "start a: type == 'x'; then b+: type == 'y'; within 9"

// 14.1: of the chapter's example, whole ones and beginnings.
func TestRightExample(t *testing.T) {
	wantRight(t, exampleThen, "xyzy", true, []int{0}, []int{1})
	wantRight(t, exampleThen, "xyzy", true, []int{0}, []int{1, 3})
	wantRight(t, exampleThen, "xyzy", true, []int{0})
	wantRight(t, exampleThen, "xyzy", false, []int{0}, []int{3})
	wantRight(t, exampleThen, "xyzy", false, []int{1})
	wantRight(t, "start a: type == 'x'; any b+: type == 'y'; within 9", "xyzy", true, []int{0}, []int{3})
	wantRight(t, "start a: type == 'x'; next b+: type == 'y'; within 9", "xyzy", true, []int{0}, []int{1})
	wantRight(t, "start a: type == 'x'; next b+: type == 'y'; within 9", "xyzy", false, []int{0}, []int{1, 3})
	wantRight(t, "start a: type == 'x'; next b+: type == 'y'; within 9", "xyzy", false, []int{0}, []int{3})
}

// 14.1: no stages, more than the pattern has, a stage without places, several where one is taken.
func TestRightOfOtherShapes(t *testing.T) {
	wantRight(t, exampleThen, "xyzy", false)
	wantRight(t, exampleThen, "xyzy", false, []int{0}, []int{1}, []int{3})
	wantRight(t, exampleThen, "xyzy", false, nil)
	wantRight(t, exampleThen, "xyzy", false, []int{}, []int{1})
	wantRight(t, exampleThen, "xyzy", false, []int{0}, nil)
	wantRight(t, exampleThen, "xyzy", false, []int{0}, []int{})
	wantRight(t, "start a: 0 < 1; any b: 0 < 1; within 9", "xyzy", false, []int{0, 1})
	wantRight(t, "start a: 0 < 1; any b: 0 < 1; within 9", "xyzy", false, []int{0}, []int{1, 2})
	wantRight(t, "start a+: 0 < 1; any b+: 0 < 1; within 9", "xyzy", true, []int{0, 1}, []int{2, 3})
}

// 14.1: places that do not rise, in a stage and from one to the next, and some that are none.
func TestRightOfOtherPlaces(t *testing.T) {
	p := "start a+: 0 < 1; any b+: 0 < 1; within 9"
	wantRight(t, p, "xyzy", false, []int{0}, []int{1, 1})
	wantRight(t, p, "xyzy", false, []int{0}, []int{2, 1})
	wantRight(t, p, "xyzy", false, []int{0, 0}, []int{1})
	wantRight(t, p, "xyzy", false, []int{1}, []int{1})
	wantRight(t, p, "xyzy", false, []int{2}, []int{1})
	wantRight(t, p, "xyzy", true, []int{2}, []int{3})
	wantRight(t, p, "xyzy", false, []int{2}, []int{4})
	wantRight(t, p, "xyzy", false, []int{4})
	wantRight(t, p, "xyzy", false, []int{-1})
	wantRight(t, p, "xyzy", false, []int{-1, 0})
	wantRight(t, p, "", false, []int{0})
	for _, far := range []int{math.MinInt, math.MaxInt, math.MinInt + 1} {
		wantRight(t, p, "xyzy", false, []int{far})
		wantRight(t, p, "xyzy", false, []int{0}, []int{far})
		wantRight(t, p, "xyzy", false, []int{far}, []int{0})
	}
	wantRight(t, p, "xyzy", false, []int{math.MinInt}, []int{math.MaxInt})
}

// 14.1: the first stage's places lie without a gap; the first one may have whatever ahead of it.
func TestRightOfTheFirstStage(t *testing.T) {
	wantRight(t, "start a+: type == 'x'; within 9", "yxxzx", true, []int{1, 2})
	wantRight(t, "start a+: type == 'x'; within 9", "yxxzx", true, []int{4})
	wantRight(t, "start a+: type == 'x'; within 9", "yxxzx", false, []int{2, 4})
	wantRight(t, "start a+: type == 'x'; within 9", "yxxzx", false, []int{1, 4})
	wantRight(t, "start a+: type == 'x'; within 9", "yxxzx", false, []int{0, 1})
}

// 14.1: the last place less the first one, of beginnings, too.
func TestRightWithin(t *testing.T) {
	p := "start a: type == 'x'; any b+: type == 'y'; any c: type == 'z'; within 4"
	wantRight(t, p, "xyyyyz", true, []int{0}, []int{1, 3})
	wantRight(t, p, "xyyyyz", false, []int{0}, []int{1, 4})
	wantRight(t, p, "xyyzzz", true, []int{0}, []int{1}, []int{3})
	wantRight(t, p, "xyyzzz", false, []int{0}, []int{1}, []int{4})
	wantRight(t, "start a: type == 'x'; within 1", "yx", true, []int{1})
	wantRight(t, "start a+: type == 'x'; within 1", "xx", false, []int{0, 1})
}

// 14.1: what lies between is asked with the last events of the stages ahead, those that were passed by as well.
func TestRightLastEvents(t *testing.T) {
	p := "start a: type == 'x'; any b+: a.n0 < n0; then c: b.n0 + 1 < n0; within 9"
	wantRight(t, p, "xyyyy", true, []int{0}, []int{1}, []int{3})
	wantRight(t, p, "xyyyy", true, []int{0}, []int{1, 2}, []int{4})
	wantRight(t, p, "xyyyy", false, []int{0}, []int{1}, []int{4})
	wantRight(t, p, "xyyyy", false, []int{0}, []int{1, 2}, []int{3})
}

// 14.1: the events' keys are not asked.
func TestRightOfOtherKeys(t *testing.T) {
	events := typed("xy")
	events[1].Key = "j"
	if ok, e := match.Right(read(exampleThen), events, [][]int{{0}, {1}}); !ok || e != api.OK {
		t.Error(ok, e)
	}
}

// 14.1: held against the model: all assignments of some of the first stages.
func TestRightOfSome(t *testing.T) {
	r := rand.New(rand.NewSource(141))
	for range 1000 {
		m := somePattern(r, 4)
		p, events := read(m.String()), someEvents(r, r.Intn(7))
		for _, stages := range m.assignments(len(events)) {
			if ok, e := match.Right(p, events, stages); ok != m.right(events, stages) || e != api.OK {
				t.Fatalf("%s over %v, %v: %v, %d", m, events, stages, ok, e)
			}
		}
	}
}

// 14.1: whatever stages are handed in, what is no assignment is not right.
func TestRightOfWhatever(t *testing.T) {
	r := rand.New(rand.NewSource(1410))
	for range 300 {
		m := somePattern(r, 3)
		p, events := read(m.String()), someEvents(r, 5)
		right := map[string]int{}
		for _, stages := range m.assignments(len(events)) {
			if m.right(events, stages) {
				right[shown(stages)]++
			}
		}
		for range 100 {
			stages := make([][]int, r.Intn(5))
			for i := range stages {
				for range r.Intn(3) {
					stages[i] = append(stages[i], i+r.Intn(4)-1)
				}
			}
			if ok, e := match.Right(p, events, stages); ok != (right[shown(stages)] > 0) || e != api.OK {
				t.Fatalf("%s over %v, %v: %v, %d", m, events, stages, ok, e)
			}
		}
	}
}

func shown(stages [][]int) string {
	var b []byte
	for _, place := range row(stages) {
		b = append(b, byte(place+2))
	}
	return string(b)
}
