package run_test

import (
	"fmt"
	"math/rand"
	"strings"
	"testing"

	"weaver/api"
	"weaver/match"
)

// wantPartials feeds all the types, and looks at what is left.
func wantPartials(t *testing.T, p, types string, want ...[][]int) {
	t.Helper()
	r := fed(t, read(p), typed(types))
	if got := r.Partials(); !sameLists(got, want) || r.Live() != len(want) || r.Seen() != len(types) {
		t.Errorf("%s over %s: %v, %d, seen %d, want %v", p, types, got, r.Live(), r.Seen(), want)
	}
}

// wantTold feeds all the types, and looks at what the last one ends.
func wantTold(t *testing.T, p, types string, want ...[][]int) {
	t.Helper()
	last := len(types) - 1
	events := typed(types)
	l, e := fed(t, read(p), events[:last]).Feed(events[last])
	if e != api.OK || !sameLists(stagesOf(l), want) {
		t.Errorf("%s over %s: %v, %d, want %v", p, types, l, e, want)
	}
	for _, m := range l {
		if m.Key != "k" {
			t.Errorf("%s over %s: key %q", p, types, m.Key)
		}
	}
}

// 15.1: a run that has seen nothing.
func TestNew(t *testing.T) {
	wantPartials(t, "start a: type == 'x'; within 9", "")
}

// 15.1, 15.2: the chapter's example.
func TestExample(t *testing.T) {
	const p = "start a: type == 'x'; then b: type == 'y'; within 9"
	wantTold(t, p, "x")
	wantPartials(t, p, "x", [][]int{{0}})
	wantTold(t, p, "xy", [][]int{{0}, {1}})
	wantPartials(t, p, "xy")
	wantPartials(t, p, "xx", [][]int{{0}}, [][]int{{1}})
	wantPartials(t, "start a: type == 'x'; then b: type == 'y'; within 2", "xx", [][]int{{1}})
}

// 15.1: n less the first place is below Within; of a window of one event nothing goes on.
func TestWithin(t *testing.T) {
	const p = "start a: type == 'x'; any b: type == 'y'; within %d"
	wantPartials(t, fmt.Sprintf(p, 4), "xzz", [][]int{{0}})
	wantPartials(t, fmt.Sprintf(p, 4), "xzzz")
	wantTold(t, fmt.Sprintf(p, 4), "xzzy", [][]int{{0}, {3}})
	wantTold(t, fmt.Sprintf(p, 4), "xzzzy")
	wantPartials(t, fmt.Sprintf(p, 1), "x")
	wantTold(t, fmt.Sprintf(p, 1), "xy")
	wantTold(t, "start a+: type == 'x'; within 1", "xx", [][]int{{1}})
	wantPartials(t, "start a+: type == 'x'; within 1", "xx")
	wantPartials(t, "start a+: type == 'x'; within 2", "xx", [][]int{{1}})
}

// 15.1: what has no open road is no partial match, a match with an open loop is one.
func TestRoads(t *testing.T) {
	wantPartials(t, "start a: type == 'x'; within 9", "x")
	wantPartials(t, "start a+: type == 'x'; within 9", "x", [][]int{{0}})
	wantPartials(t, "start a+: type == 'x'; within 9", "xz")
	wantPartials(t, "start a: type == 'x'; next b: type == 'y'; within 9", "xz")
	wantPartials(t, "start a: type == 'x'; next b+: type == 'y'; within 9", "xy", [][]int{{0}, {1}})
	wantPartials(t, "start a: type == 'x'; then b+: type == 'y'; within 9", "xzy", [][]int{{0}, {2}})
	wantPartials(t, "start a: type == 'x'; then b+: type == 'y'; within 9", "xyzz", [][]int{{0}, {1}})
	wantPartials(t, "start a: type == 'x'; any b: type == 'y'; within 9", "xyy", [][]int{{0}})
	wantPartials(t, "start a+: type == 'x'; then b: type == 'y'; within 9", "xz", [][]int{{0}})
}

// 15.1: the order: a stage that ends ahead of one that goes on, fewer stages ahead of more.
func TestOrder(t *testing.T) {
	wantPartials(t, "start a+: type == 'x'; any b+: 0 < 1; within 9", "xxx",
		[][]int{{0}}, [][]int{{0}, {1}}, [][]int{{0}, {1, 2}}, [][]int{{0}, {2}},
		[][]int{{0, 1}}, [][]int{{0, 1}, {2}}, [][]int{{0, 1, 2}},
		[][]int{{1}}, [][]int{{1}, {2}}, [][]int{{1, 2}}, [][]int{{2}})
	wantTold(t, "start a+: type == 'x'; any b+: 0 < 1; within 9", "xxx",
		[][]int{{0}, {1, 2}}, [][]int{{0}, {2}}, [][]int{{0, 1}, {2}}, [][]int{{1}, {2}})
}

// 15.2: conditions ask for the last events of the stages ahead, of those alone.
func TestLastEvents(t *testing.T) {
	const p = "start a+: type == 'x'; then b+: a.n0 < n0; any c: b.n0 + 1 == n0; within 9"
	wantTold(t, p, "xxyy", [][]int{{0}, {1, 2}, {3}}, [][]int{{0, 1}, {2}, {3}}, [][]int{{1}, {2}, {3}})
}

// 15.1, 15.2, 15.5: short patterns of all kinds over all short sequences, held against the model.
func TestAllShort(t *testing.T) {
	conds := []string{"type == 'x'", "0 < 1", "type == a.type"}
	for _, how := range []string{"next", "then", "any"} {
		for many := range 4 {
			for i := range 6 {
				p := read(fmt.Sprintf("start a%s: %s; %s b%s: %s; within 4",
					[]string{"", "+"}[many%2], conds[i%2], how, []string{"", "+"}[many/2], conds[i/2]))
				for n := range 32 {
					wantAsModel(t, p, typed(strings.NewReplacer("0", "x", "1", "y").Replace(fmt.Sprintf("%05b", n))))
				}
			}
		}
	}
}

// 15.1, 15.2, 15.3, 15.5: patterns of up to five stages, some of whose conditions ask for others.
func TestAgainstModel(t *testing.T) {
	r := rand.New(rand.NewSource(15))
	for range 1500 {
		wantAsModel(t, somePattern(r, 5, 9), someEvents(r, 8))
	}
}

// 15.4, 15.5: what is told is what chapter 14 finds, over long sequences, and with a run that is saved
// and loaded again and again.
func TestWhatIsFound(t *testing.T) {
	r := rand.New(rand.NewSource(4))
	whole := 0
	for range 400 {
		p, events := somePattern(r, 4, 20), someEvents(r, 1+r.Intn(200))
		told, ok := toldOf(t, p, events, r)
		if !ok {
			continue
		}
		l, e := match.Find(p, "k", events)
		if e == api.ErrMany && len(told) > api.MaxItems {
			continue
		}
		if e != api.OK || !sameLists(stagesOf(l), stagesOf(told)) {
			t.Fatalf("%s over %s: %d told, %d found, %d", written(p), types(events), len(told), len(l), e)
		}
		whole++
	}
	if whole < 200 {
		t.Error("too few patterns came to an end:", whole)
	}
}

// toldOf is false, where there are too many partial matches.
func toldOf(t *testing.T, p api.Pattern, events []api.Event, rnd *rand.Rand) ([]api.Match, bool) {
	t.Helper()
	var told []api.Match
	r := begun(t, p)
	for _, x := range events {
		l, e := r.Feed(x)
		if e == api.ErrMany {
			return nil, false
		}
		if e != api.OK {
			t.Fatal(e)
		}
		told = append(told, l...)
		if b, e := r.Save(); e == api.OK && rnd.Intn(4) == 0 {
			r = loaded(t, p, b)
		}
	}
	return told, true
}
