package run_test

import (
	"slices"
	"testing"

	"weaver/api"
	"weaver/event"
	"weaver/expr"
	"weaver/pack"
	"weaver/run"
)

// state is what a run's bytes say, right or not.
type state struct {
	key      string
	seen     int
	many     int
	partials []savedPartial
}

type savedPartial struct {
	stages     [][]int
	lasts      []string
	loop, take int
}

func (s state) items() []api.Item {
	l := []api.Item{text(s.key), number(s.seen), number(s.many)}
	for _, x := range s.partials {
		l = append(l, number(len(x.stages)))
		for i, places := range x.stages {
			l = append(l, number(len(places)))
			for _, place := range places {
				l = append(l, number(place))
			}
			l = append(l, text(x.lasts[i]))
		}
		l = append(l, number(x.loop), number(x.take))
	}
	return l
}

func (s state) bytes(t *testing.T) string {
	t.Helper()
	b, e := pack.Encode(s.items())
	if e != api.OK {
		t.Fatal(e)
	}
	return b
}

// stateOf is false, if the items are not of that form.
func stateOf(l []api.Item) (s state, ok bool) {
	next := func(isText bool) (x api.Item) {
		ok = ok && len(l) > 0 && l[0].Text == isText
		if ok {
			x, l = l[0], l[1:]
		}
		return x
	}
	ok = true
	s = state{key: next(true).S, seen: int(next(false).N), many: int(next(false).N)}
	for len(l) > 0 && ok {
		var x savedPartial
		for range min(next(false).N, 100) {
			var places []int
			for range min(next(false).N, api.MaxItems) {
				places = append(places, int(next(false).N))
			}
			x.stages = append(x.stages, places)
			x.lasts = append(x.lasts, next(true).S)
		}
		x.loop, x.take = int(next(false).N), int(next(false).N)
		s.partials = append(s.partials, x)
	}
	return s, ok
}

// couldBeSaved asks the chapter's list, one by one.
func couldBeSaved(p api.Pattern, b string) bool {
	l, f := pack.Decode(b)
	if f != (api.Fault{}) {
		return false
	}
	s, ok := stateOf(l)
	if !ok || event.Check(api.Event{Key: s.key, Type: "x"}) != api.OK || s.many != len(s.partials) {
		return false
	}
	if s.seen < 0 || s.seen > api.MaxSeq || s.many > api.MaxLive {
		return false
	}
	for i, x := range s.partials {
		if i > 0 && byRow(s.partials[i-1].stages, x.stages) >= 0 {
			return false
		}
		if !x.hasStages(p, s.seen) || !x.hasLasts(p, s.key) || !x.hasNode(p) {
			return false
		}
	}
	return true
}

func (x savedPartial) hasStages(p api.Pattern, seen int) bool {
	if len(x.stages) < 1 || len(x.stages) > len(p.Stages) {
		return false
	}
	all := slices.Concat(x.stages...)
	for i, places := range x.stages {
		if len(places) < 1 || len(places) > 1 && !p.Stages[i].Many {
			return false
		}
	}
	for i := range all[1:] {
		if all[i] >= all[i+1] {
			return false
		}
	}
	return all[0] >= 0 && all[len(all)-1] < seen && seen-all[0] < p.Within
}

func (x savedPartial) hasLasts(p api.Pattern, key string) bool {
	var names []string
	var lasts []api.Event
	for i, b := range x.lasts {
		now, e := event.Decode(b)
		if e != api.OK || now.Key != key {
			return false
		}
		if ok, _ := expr.Holds(p.Stages[i].Cond, now, names, lasts); !ok {
			return false
		}
		names, lasts = append(names, p.Stages[i].Name), append(lasts, now)
	}
	return true
}

func (x savedPartial) hasNode(p api.Pattern) bool {
	last := len(x.stages)
	if x.loop == 1 && !p.Stages[last-1].Many || x.take == 1 && last == len(p.Stages) {
		return false
	}
	return x.loop >= 0 && x.loop <= 1 && x.take >= 0 && x.take <= 1 && x.loop+x.take > 0
}

// wantLoad holds Load against the list; what is loaded has just these bytes, and can be fed.
func wantLoad(t *testing.T, p api.Pattern, b string) (ok bool) {
	t.Helper()
	r, e := run.Load(p, b)
	if !couldBeSaved(p, b) {
		if e != api.ErrState || r != nil {
			t.Fatalf("%s: %q: %d, want %d", written(p), b, e, api.ErrState)
		}
		return false
	}
	if e != api.OK {
		t.Fatalf("%s: %q: %d", written(p), b, e)
	}
	if again := saved(t, r); again != b {
		t.Fatalf("%s: %q was saved as %q", written(p), b, again)
	}
	for _, x := range typed("xyz") {
		if _, e := r.Feed(x); e != api.OK && e != api.ErrEvent && e != api.ErrLong {
			t.Fatalf("%s: %q: fed: %d", written(p), b, e)
		}
	}
	return true
}
