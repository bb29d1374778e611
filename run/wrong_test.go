package run_test

import (
	"strings"
	"testing"

	"weaver/api"
	"weaver/run"
)

func wrongPatterns() []api.Pattern {
	var out []api.Pattern
	for _, change := range []func(p *api.Pattern){
		func(p *api.Pattern) { p.Stages = nil },
		func(p *api.Pattern) { p.Within = 0 },
		func(p *api.Pattern) { p.Within = api.MaxWindow + 1 },
		func(p *api.Pattern) { p.Stages[1].Name = "a" },
		func(p *api.Pattern) { p.Stages[0].How = api.SAny },
		func(p *api.Pattern) { p.Stages[1].How = 4 },
		func(p *api.Pattern) { p.Stages[1].Cond = nil },
		func(p *api.Pattern) { p.Stages = p.Stages[1:] },
	} {
		p := read("start a: 0 < 1; any b: a.n0 < 1; within 9")
		change(&p)
		out = append(out, p)
	}
	return out
}

func wrongKeys() []string {
	return []string{"", "K", "k k", "-", "\x00", "é", strings.Repeat("k", api.MaxName+1)}
}

// 15.1, R1: a pattern that may not be, ahead of a key that is no name.
func TestNewRefuses(t *testing.T) {
	for _, p := range wrongPatterns() {
		for _, key := range append(wrongKeys(), "k") {
			if r, e := run.New(p, key); r != nil || e != api.ErrPattern {
				t.Error(p, key, e)
			}
		}
	}
	p := read("start a: 0 < 1; within 9")
	for _, key := range wrongKeys() {
		if r, e := run.New(p, key); r != nil || e != api.ErrEvent {
			t.Error(key, e)
		}
	}
	for _, key := range []string{"k", "0", "a0z9", strings.Repeat("k", api.MaxName)} {
		r, e := run.New(p, key)
		if e != api.OK {
			t.Fatal(key, e)
		}
		if l, e := r.Feed(api.Event{Key: key, Type: "x"}); e != api.OK || len(l) != 1 || l[0].Key != key {
			t.Error(l, e)
		}
	}
}

func wrongEvents() []api.Event {
	return []api.Event{
		{},
		{Key: "k"},
		{Key: "k", Type: "X"},
		{Key: "k", Type: strings.Repeat("x", api.MaxName+1)},
		{Key: "k", Type: "x", Text: strings.Repeat("x", api.MaxText+1)},
		{Key: "K", Type: "x"},
		{Key: "j", Type: "x"},
		{Key: "kk", Type: "x"},
		{Type: "x"},
	}
}

func wantFeedRefused(t *testing.T, r *run.Run, x api.Event, want api.Errno) {
	t.Helper()
	seen, partials := r.Seen(), r.Partials()
	if l, e := r.Feed(x); len(l) != 0 || e != want {
		t.Errorf("%v: %v, %d, want %d", x, l, e, want)
	}
	if r.Seen() != seen || r.Live() != len(partials) || !sameLists(r.Partials(), partials) {
		t.Error("something changed")
	}
}

// 15.2, R5: events that may not be, or are of another key, change nothing.
func TestFeedRefuses(t *testing.T) {
	const text = "start a: type == 'x'; any b+: type == 'y'; any c: type == 'x'; within 9"
	p := read(text)
	r := begun(t, p)
	for _, x := range typed("xyyzx") {
		b := saved(t, r)
		for _, no := range wrongEvents() {
			wantFeedRefused(t, r, no, api.ErrEvent)
		}
		if saved(t, r) != b {
			t.Error("something changed")
		}
		if _, e := r.Feed(x); e != api.OK {
			t.Error(e)
		}
	}
	longest := api.Event{Key: "k", Type: strings.Repeat("x", api.MaxName), Text: strings.Repeat("x", api.MaxText)}
	if _, e := r.Feed(longest); e != api.OK || r.Seen() != 6 {
		t.Error(e, r.Seen())
	}
}

// 15.2, R1: as many events as may be seen, ahead of too many partial matches, behind what may not be.
func TestFeedEnds(t *testing.T) {
	p := read("start a+: type == 'x'; within 9")
	r := loaded(t, p, state{key: "k", seen: api.MaxSeq - 1}.bytes(t))
	l, e := r.Feed(typed("x")[0])
	if e != api.OK || !sameLists(stagesOf(l), [][][]int{{{api.MaxSeq - 1}}}) || r.Seen() != api.MaxSeq || r.Live() != 1 {
		t.Error(l, e, r.Seen(), r.Live())
	}
	wantFeedRefused(t, r, typed("x")[0], api.ErrLong)
	for _, no := range wrongEvents() {
		wantFeedRefused(t, r, no, api.ErrEvent)
	}
	r = loaded(t, p, saved(t, r))
	wantFeedRefused(t, r, typed("y")[0], api.ErrLong)
}

// 15.2: as many partial matches as may be, and one more; those whose window ends with the event do not
// count behind it.
func TestFeedMany(t *testing.T) {
	p := read("start a: type == 'x'; any b+: type == 'y'; any c: type == 'z'; within 14")
	r := fed(t, p, typed("xyyyyyyyyyy"))
	if r.Live() != api.MaxLive {
		t.Fatal(r.Live())
	}
	wantFeedRefused(t, r, typed("x")[0], api.ErrMany)
	wantFeedRefused(t, r, typed("y")[0], api.ErrMany)
	for _, no := range wrongEvents() {
		wantFeedRefused(t, r, no, api.ErrEvent)
	}
	if _, e := r.Feed(typed("w")[0]); e != api.OK || r.Live() != api.MaxLive {
		t.Error(e, r.Live())
	}
	l, e := r.Feed(typed("z")[0])
	if e != api.OK || len(l) != api.MaxLive-1 || r.Live() != api.MaxLive {
		t.Error(len(l), e, r.Live())
	}
	if l, e := r.Feed(typed("x")[0]); e != api.OK || len(l) != 0 || r.Live() != 1 || r.Seen() != 14 {
		t.Error(len(l), e, r.Live(), r.Seen())
	}
}

// 15.2: nor do those whose roads the event shuts: they are as many as the events for b ahead of the last.
func TestFeedManyShut(t *testing.T) {
	p := read("start a: type == 'x'; any b: type == 'y'; any c: type == 'y'; next d: type == 'z'; within 256")
	events := typed(strings.Repeat("x", 8) + strings.Repeat("y", 64))
	for last, want := range map[string]int{"x": 9 + 8*64, "z": 8 + 8*64} {
		r := fed(t, p, events)
		if r.Live() != api.MaxLive {
			t.Fatal(r.Live())
		}
		wantFeedRefused(t, r, typed("y")[0], api.ErrMany)
		if _, e := r.Feed(typed(last)[0]); e != api.OK || r.Live() != want {
			t.Error(last, e, r.Live())
		}
	}
}
