package match_test

import (
	"strings"
	"testing"

	"weaver/api"
	"weaver/match"
)

func wantRefused(t *testing.T, p api.Pattern, key string, events []api.Event, want api.Errno) {
	t.Helper()
	if l, e := match.Find(p, key, events); len(l) != 0 || e != want {
		t.Errorf("Find: %v, %d, want %d", l, e, want)
	}
}

func wantRightRefused(t *testing.T, p api.Pattern, events []api.Event, want api.Errno) {
	t.Helper()
	for _, stages := range [][][]int{nil, {{0}}, {{-1}}, {{0}, {1}}} {
		if ok, e := match.Right(p, events, stages); ok || e != want {
			t.Errorf("Right: %v, %d, want %d", ok, e, want)
		}
	}
}

// wrongEvents are events of the key k that may not be.
func wrongEvents() []api.Event {
	return []api.Event{
		{},
		{Key: "k"},
		{Key: "k", Type: "X"},
		{Key: "k", Type: strings.Repeat("x", api.MaxName+1)},
		{Key: "k", Type: "x", Text: strings.Repeat("x", api.MaxText+1)},
	}
}

// 14.1, 14.2: a pattern that may not be, ahead of all else.
func TestWrongPatterns(t *testing.T) {
	good := read("start a: 0 < 1; any b: 0 < 1; within 9")
	for _, change := range []func(p *api.Pattern){
		func(p *api.Pattern) { p.Stages = nil },
		func(p *api.Pattern) { p.Within = 0 },
		func(p *api.Pattern) { p.Within = api.MaxWindow + 1 },
		func(p *api.Pattern) { p.Stages[1].Name = "a" },
		func(p *api.Pattern) { p.Stages[0].How = api.SAny },
		func(p *api.Pattern) { p.Stages[1].How = 4 },
		func(p *api.Pattern) { p.Stages[1].Cond = nil },
		func(p *api.Pattern) { p.Stages = p.Stages[1:] },
	} {
		p := good
		p.Stages = append([]api.Stage{}, good.Stages...)
		change(&p)
		for _, events := range [][]api.Event{nil, typed("xy"), wrongEvents(), make([]api.Event, api.MaxItems+1)} {
			wantRefused(t, p, "k", events, api.ErrPattern)
			wantRefused(t, p, "", events, api.ErrPattern)
			wantRightRefused(t, p, events, api.ErrPattern)
		}
	}
}

// 14.1, 14.2, R1: more than 4096 events, ahead of what is wrong with them, or with the key.
func TestTooManyEvents(t *testing.T) {
	p := read("start a: type == 'q'; within 9")
	most := typed(strings.Repeat("x", api.MaxItems))
	wantFound(t, "start a: type == 'q'; within 9", strings.Repeat("x", api.MaxItems))
	if ok, e := match.Right(p, most, [][]int{{0}}); ok || e != api.OK {
		t.Error(ok, e)
	}
	for _, more := range [][]api.Event{append(most, most[0]), make([]api.Event, api.MaxItems+1)} {
		wantRefused(t, p, "k", more, api.ErrLong)
		wantRefused(t, p, "", more, api.ErrLong)
		wantRightRefused(t, p, more, api.ErrLong)
	}
}

// 14.1, 14.2: an event that may not be, wherever it stands.
func TestWrongEvents(t *testing.T) {
	p := read("start a: 0 < 1; any b: 0 < 1; within 9")
	for _, x := range wrongEvents() {
		for at := range 4 {
			events := typed("xyzx")
			events[at] = x
			wantRefused(t, p, "k", events, api.ErrEvent)
			wantRightRefused(t, p, events, api.ErrEvent)
		}
	}
	last := typed(strings.Repeat("x", api.MaxItems))
	last[api.MaxItems-1].Type = ""
	wantRefused(t, p, "k", last, api.ErrEvent)
	wantRightRefused(t, p, last, api.ErrEvent)
}

// 14.2: a key that is no name, with and without events; events of another key, wherever they stand.
func TestWrongKeys(t *testing.T) {
	p := read("start a: 0 < 1; within 9")
	for _, key := range []string{"", "K", "k k", "-", "\x00", "é", strings.Repeat("k", api.MaxName+1)} {
		wantRefused(t, p, key, nil, api.ErrEvent)
		wantRefused(t, p, key, typed("x"), api.ErrEvent)
		same := typed("x")
		same[0].Key = key
		wantRefused(t, p, key, same, api.ErrEvent)
	}
	wantRefused(t, p, "j", typed("x"), api.ErrEvent)
	for at := range 4 {
		events := typed("xyzx")
		events[at].Key = "kk"
		wantRefused(t, p, "k", events, api.ErrEvent)
	}
	long := strings.Repeat("k", api.MaxName)
	events := typed("x")
	events[0].Key = long
	if l, e := match.Find(p, long, events); len(l) != 1 || l[0].Key != long || e != api.OK {
		t.Error(l, e)
	}
}

// R1: what may not be is told ahead of too many matches.
func TestWrongAheadOfMany(t *testing.T) {
	p := read("start a: 0 < 1; any b+: 0 < 1; within 256")
	events := typed(strings.Repeat("x", 300))
	wantRefused(t, p, "k", events, api.ErrMany)
	wantRefused(t, p, "j", events, api.ErrEvent)
	events[299].Key = "j"
	wantRefused(t, p, "k", events, api.ErrEvent)
}
