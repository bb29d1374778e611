package match_test

import (
	"fmt"
	"strings"
	"testing"

	"weaver/api"
	"weaver/match"
)

// stagesOfOne are as many stages as may be, but for the last one, which follow and hold in one way.
func stagesOfOne(how, cond string) string {
	s := "start s0+: 0 < 1; "
	for i := 1; i < api.MaxStages-1; i++ {
		s += fmt.Sprintf("%s s%d+: %s; ", how, i, strings.ReplaceAll(cond, "AHEAD", fmt.Sprintf("s%d", i-1)))
	}
	return s
}

// P1: more beginnings than can be gone through, none of which comes to a match.
func TestEndsWithoutMatches(t *testing.T) {
	x := strings.Repeat("x", api.MaxItems)
	for _, how := range []string{"next", "then", "any"} {
		wantFound(t, stagesOfOne(how, "0 < 1")+how+" z: type == 'q'; within 256", x)
		wantFound(t, stagesOfOne(how, "AHEAD.n0 < n0")+how+" z: type == 'q'; within 256", x[:400])
	}
	wantFound(t, "start a: 0 < 1; any b+: 0 < 1; any c: a.n0 + b.n0 < 0; within 256", x[:100])
	wantFound(t, "start a: 0 < 1; any b+: 0 < 1; any c+: 0 < 1; any d: type == b.text; within 256", x[:300])
}

// P1: few matches that lie among so many beginnings that come to nothing are found, and none besides.
func TestEndsWithFew(t *testing.T) {
	p := "start a: type == 'x'; any b+: type == 'y'; any c: type == 'x' and b.n0 == 1; within 256"
	wantFound(t, p, "x"+strings.Repeat("y", 200)+"x", [][]int{{0}, {1}, {201}})
	p = "start a: type == 'x'; any b+: type == 'y'; any c+: type == 'y' and n0 == b.n0 + 150; next d: type == 'q'; within 256"
	wantFound(t, p, "x"+strings.Repeat("y", 150)+"yq", [][]int{{0}, {1}, {151}, {152}})
}

// P1: matches without number are too many.
func TestEndsWithMany(t *testing.T) {
	events := typed(strings.Repeat("x", api.MaxItems-1) + "q")
	for _, how := range []string{"then", "any"} {
		for _, text := range []string{
			stagesOfOne("any", "0 < 1") + how + " z: type == 'q'; within 256",
			stagesOfOne("any", "AHEAD.n0 < n0") + how + " z+: 0 < 1; within 256",
			stagesOfOne("any", "not n0 < AHEAD.n0") + how + " z: s0.n0 < n0; within 256",
		} {
			wantRefused(t, read(text), "k", events, api.ErrMany)
		}
	}
}

// P1: Right goes through no more than a window of as many events as may be.
func TestRightEnds(t *testing.T) {
	events := typed(strings.Repeat("x", api.MaxItems))
	all := make([]int, api.MaxItems)
	for i := range all {
		all[i] = i
	}
	p := read("start a+: 0 < 1; then b: 0 < 1; within 256")
	for stages, want := range map[*[][]int]bool{
		{all}:                               false,
		{all[:256]}:                         true,
		{all[api.MaxItems-256:]}:            true,
		{all[:257]}:                         false,
		{all[:255], {255}}:                  true,
		{all[:255], {256}}:                  false,
		{all[:1], {api.MaxItems - 1}}:       false,
		{{api.MaxItems - 1}}:                true,
		{{api.MaxItems}}:                    false,
		{all, all, all, all, all, all, all}: false,
	} {
		if ok, e := match.Right(p, events, *stages); ok != want || e != api.OK {
			t.Error(len((*stages)[0]), ok, e, want)
		}
	}
}
