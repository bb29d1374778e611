package match_test

import (
	"math/rand"
	"strings"
	"testing"

	"weaver/api"
	"weaver/event"
	"weaver/match"
)

func wantFound(t *testing.T, p, types string, want ...[][]int) {
	t.Helper()
	l, e := match.Find(read(p), "k", typed(types))
	if e != api.OK || !sameMatches(stagesOf(l), want) {
		t.Errorf("%s over %s: %v, %d, want %v", p, types, stagesOf(l), e, want)
	}
	for _, m := range l {
		if m.Key != "k" {
			t.Errorf("%s over %s: key %q", p, types, m.Key)
		}
	}
}

// 14.2: the chapter's example.
func TestFindExample(t *testing.T) {
	wantFound(t, "start a: type == 'x'; then b+: type == 'y'; within 9", "xyzy", [][]int{{0}, {1}}, [][]int{{0}, {1, 3}})
	wantFound(t, "start a: type == 'x'; any b+: type == 'y'; within 9", "xyzy", [][]int{{0}, {1}}, [][]int{{0}, {1, 3}}, [][]int{{0}, {3}})
	wantFound(t, "start a: type == 'x'; next b+: type == 'y'; within 9", "xyzy", [][]int{{0}, {1}})
}

// 14.2: no events, none that hold, one stage.
func TestFindFew(t *testing.T) {
	wantFound(t, "start a: type == 'x'; within 9", "")
	wantFound(t, "start a: type == 'q'; within 9", "xyz")
	wantFound(t, "start a: type == 'x'; within 1", "xyx", [][]int{{0}}, [][]int{{2}})
	wantFound(t, "start a: 0 < 1; next b: 0 < 1; within 9", "x")
	wantFound(t, "start a: 0 < 1; any b: 0 < 1; within 1", "xxxx")
}

// 14.2: events of the first stage follow one another without a gap, by its How.
func TestFindManyOfTheFirst(t *testing.T) {
	wantFound(t, "start a+: type == 'x'; within 9", "xxyx", [][]int{{0}}, [][]int{{0, 1}}, [][]int{{1}}, [][]int{{3}})
	wantFound(t, "start a+: type == 'x'; next b: type == 'y'; within 9", "xxy", [][]int{{0, 1}, {2}}, [][]int{{1}, {2}})
	wantFound(t, "start a+: type == 'x'; then b: type == 'y'; within 9", "xxy", [][]int{{0}, {2}}, [][]int{{0, 1}, {2}}, [][]int{{1}, {2}})
}

// 14.2: then passes by nothing that holds there, whatever it holds for besides; any passes by it.
func TestFindThen(t *testing.T) {
	wantFound(t, "start a: type == 'x'; then b: 0 < 1; within 9", "xyz", [][]int{{0}, {1}})
	wantFound(t, "start a: type == 'x'; then b: type == 'x'; within 9", "xyxx", [][]int{{0}, {2}}, [][]int{{2}, {3}})
	wantFound(t, "start a: type == 'x'; then b: type == 'y'; then c: type == 'x'; within 9", "xyyxx", [][]int{{0}, {1}, {3}})
	wantFound(t, "start a: type == 'x'; any b: type == 'y'; then c: type == 'x'; within 9", "xyyxx", [][]int{{0}, {1}, {3}}, [][]int{{0}, {2}, {3}})
	wantFound(t, "start a: type == 'x'; any b: type == 'y'; next c: type == 'z'; within 9", "xyyz", [][]int{{0}, {2}, {3}})
	wantFound(t, "start a: type == 'x'; then b+: type == 'y'; then c: type == 'y'; within 9", "xyyy",
		[][]int{{0}, {1}, {2}}, [][]int{{0}, {1, 2}, {3}})
}

// 14.2: between two of a stage lies what its own How says, with the last events of the stages ahead of it alone.
func TestFindLastEvents(t *testing.T) {
	wantFound(t, "start a: type == 'x'; any b: n0 == a.n0 + 2; within 9", "xxyy", [][]int{{0}, {2}}, [][]int{{1}, {3}})
	wantFound(t, "start a+: type == 'x'; then b: n0 == a.n0 + 1; within 9", "xxy",
		[][]int{{0}, {1}}, [][]int{{0, 1}, {2}}, [][]int{{1}, {2}})
	wantFound(t, "start a: type == 'x'; any b+: a.n0 < n0; then c: b.n0 + 1 < n0; within 9", "xyyyy",
		[][]int{{0}, {1}, {3}},
		[][]int{{0}, {1, 2}, {4}}, [][]int{{0}, {2}, {4}})
}

// 14.2: the last place less the first one is below Within.
func TestFindWithin(t *testing.T) {
	wantFound(t, "start a: type == 'x'; then b: type == 'y'; within 2", "xzyxy", [][]int{{3}, {4}})
	wantFound(t, "start a: type == 'x'; then b: type == 'y'; within 3", "xzyxy", [][]int{{0}, {2}}, [][]int{{3}, {4}})
	wantFound(t, "start a: type == 'x'; any b+: type == 'y'; within 4", "xyzyy", [][]int{{0}, {1}}, [][]int{{0}, {1, 3}}, [][]int{{0}, {3}})
	far := strings.Repeat("z", api.MaxWindow-2)
	wantFound(t, "start a: type == 'x'; any b: type == 'y'; within 256", "x"+far+"y", [][]int{{0}, {api.MaxWindow - 1}})
	wantFound(t, "start a: type == 'x'; any b: type == 'y'; within 256", "x"+far+"zy")
	wantFound(t, "start a: type == 'x'; any b: type == 'y'; within 255", "x"+far+"y")
}

// 14.2: by their last places, then by their places.
func TestFindOrder(t *testing.T) {
	wantFound(t, "start a+: 0 < 1; any b+: 0 < 1; within 9", "xxxx",
		[][]int{{0}, {1}},
		[][]int{{0}, {1, 2}}, [][]int{{0}, {2}}, [][]int{{0, 1}, {2}}, [][]int{{1}, {2}},
		[][]int{{0}, {1, 2, 3}}, [][]int{{0}, {1, 3}}, [][]int{{0}, {2, 3}}, [][]int{{0}, {3}},
		[][]int{{0, 1}, {2, 3}}, [][]int{{0, 1}, {3}}, [][]int{{0, 1, 2}, {3}},
		[][]int{{1}, {2, 3}}, [][]int{{1}, {3}}, [][]int{{1, 2}, {3}}, [][]int{{2}, {3}})
}

// 14.2: the longest match that may be, and as many stages as may be.
func TestFindMost(t *testing.T) {
	all := make([]int, api.MaxWindow)
	for i := range all {
		all[i] = i
	}
	x := strings.Repeat("x", api.MaxWindow-1)
	wantFound(t, "start a+: type == 'x'; next b: type == 'y'; within 256", x+"y", suffixes(all)...)
	wantFound(t, "start a: n0 == 0; any b: n0 == 1; next c: n0 == 2; then d: n0 == 3; any e: n0 == 4; next f: n0 == 5; then g: n0 == 6; any h: n0 == 7; within 8", "xxxxxxxxx",
		[][]int{{0}, {1}, {2}, {3}, {4}, {5}, {6}, {7}})
}

// suffixes are the matches of a row whose last place is the second stage's: from each place on.
func suffixes(all []int) [][][]int {
	n := len(all) - 1
	out := [][][]int{{all[:n], all[n:]}}
	for i := 1; i < n; i++ {
		out = append(out, [][]int{all[i:n], all[n:]})
	}
	return out
}

// 14.2: 4096 matches are told, 4097 are too many.
func TestFindMany(t *testing.T) {
	p := read("start a: 0 < 1; within 1")
	l, e := match.Find(p, "k", typed(strings.Repeat("x", api.MaxItems)))
	if len(l) != api.MaxItems || e != api.OK {
		t.Error(len(l), e)
	}
	for i, m := range l {
		if !sameStages(m.Stages, [][]int{{i}}) {
			t.Fatal(i, m)
		}
	}
	p = read("start a+: 0 < 1; within 2")
	l, e = match.Find(p, "k", typed(strings.Repeat("x", 2048)))
	if len(l) != api.MaxItems-1 || e != api.OK {
		t.Error(len(l), e)
	}
	l, e = match.Find(p, "k", typed(strings.Repeat("x", 2049)))
	if len(l) != 0 || e != api.ErrMany {
		t.Error(len(l), e)
	}
	p = read("start a: type == 'y'; any b+: type == 'x'; within 20")
	l, e = match.Find(p, "k", typed("y"+strings.Repeat("x", 12)+"y"))
	if len(l) != api.MaxItems-1 || e != api.OK {
		t.Error(len(l), e)
	}
	l, e = match.Find(p, "k", typed("yx"+strings.Repeat("z", 20)+"y"+strings.Repeat("x", 12)))
	if len(l) != api.MaxItems || e != api.OK {
		t.Error(len(l), e)
	}
	l, e = match.Find(p, "k", typed("yxyx"+strings.Repeat("z", 20)+"y"+strings.Repeat("x", 12)))
	if len(l) != 0 || e != api.ErrMany {
		t.Error(len(l), e)
	}
}

// holdAgainst looks at one pattern and sequence by the model: what is found, in order, of the key.
func holdAgainst(t *testing.T, m modelPattern, events []api.Event) {
	t.Helper()
	l, e := match.Find(read(m.String()), "k", events)
	if want := m.matches(events); e != api.OK || !sameMatches(stagesOf(l), want) {
		t.Fatalf("%s over %v: %v, %d, want %v", m, events, stagesOf(l), e, want)
	}
	for i, x := range l {
		if event.CheckMatch(x) != api.OK || x.Key != "k" {
			t.Fatalf("%s over %v: %v", m, events, x)
		}
		if i > 0 {
			if n, _ := event.Compare(l[i-1], x); n != -1 {
				t.Fatalf("%s over %v: %v stands ahead of %v", m, events, l[i-1], x)
			}
		}
	}
}

// 14.2: all patterns of two stages, of conditions that do not ask for stages, over all short sequences.
func TestFindOfAllPairs(t *testing.T) {
	sequences := []string{""}
	for i := 0; len(sequences[i]) < 4; i++ {
		for _, next := range []string{"x", "y", "z"} {
			sequences = append(sequences, sequences[i]+next)
		}
	}
	eachPair(func(m modelPattern) {
		for _, types := range sequences {
			holdAgainst(t, m, typed(types))
		}
	})
}

func eachPair(call func(m modelPattern)) {
	for bits := range 4 {
		for how := api.SNext; how <= api.SAny; how++ {
			for _, a := range plain() {
				for _, b := range plain() {
					for _, within := range []int{2, 3, 9} {
						a.many, b.many, b.how = bits&1 != 0, bits&2 != 0, how
						call(modelPattern{stages: []modelStage{a, b}, within: within})
					}
				}
			}
		}
	}
}

// 14.2: patterns of up to four stages, whose conditions ask for the stages ahead.
func TestFindOfSome(t *testing.T) {
	r := rand.New(rand.NewSource(14))
	for range 3000 {
		holdAgainst(t, somePattern(r, 4), someEvents(r, r.Intn(9)))
	}
}

// 14.3: of a beginning is found what of the whole lies in it, in the same order.
func TestFindOfBeginnings(t *testing.T) {
	r := rand.New(rand.NewSource(143))
	for range 300 {
		m := somePattern(r, 4)
		p, events := read(m.String()), someEvents(r, 12)
		whole, e := match.Find(p, "k", events)
		if e != api.OK {
			continue
		}
		for n := range len(events) + 1 {
			var want [][][]int
			for _, x := range whole {
				if lastPlace(x.Stages) < n {
					want = append(want, x.Stages)
				}
			}
			if l, e := match.Find(p, "k", events[:n]); e != api.OK || !sameMatches(stagesOf(l), want) {
				t.Fatalf("%s over %v: %v, %d, want %v", m, events[:n], stagesOf(l), e, want)
			}
		}
	}
}
