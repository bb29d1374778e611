package keyed

import (
	"slices"

	"weaver/api"
	"weaver/pack"
	"weaver/run"
)

func Load(p api.Pattern, groups int, parts []string) (*State, api.Errno) {
	s, e := New(p, groups)
	if e != api.OK {
		return nil, e
	}
	l := loader{into: s, part: map[string]*run.Run{}}
	for _, b := range parts {
		if !l.read(b) || !l.join() {
			return nil, api.ErrState
		}
	}
	return s, api.OK
}

// loader puts a state together, part by part. The runs of the part at hand stand by themselves, in a
// map that is cleared for the next one, until all of the part is known to be right.
type loader struct {
	into *State
	part map[string]*run.Run
}

// read is false, if the bytes are none that a state of as many groups could tell.
func (l *loader) read(b string) bool {
	clear(l.part)
	runs, ok := l.runsIn(b)
	if !ok {
		return false
	}
	ahead := ""
	for _, x := range runs {
		key, r := l.runOf(x)
		// No name is empty, so that the first key is behind ahead, too.
		if r == nil || key <= ahead {
			return false
		}
		l.part[key] = r
		ahead = key
	}
	return true
}

// runsIn are the items behind the head, if it goes with them. Too many are refused here already, so that
// thousands of runs are not loaded in vain.
func (l *loader) runsIn(b string) ([]api.Item, bool) {
	items, f := pack.Decode(b)
	heads := len(headItems(0, 0))
	if f != (api.Fault{}) || len(items) < heads || len(items) > heads+maxKeys {
		return nil, false
	}
	runs := items[heads:]
	if !slices.Equal(items[:heads], headItems(l.into.groups, len(runs))) {
		return nil, false
	}
	return runs, true
}

// runOf answers no run, if the item is none of one. A run does not tell its key; its bytes begin with it.
func (l *loader) runOf(x api.Item) (key string, r *run.Run) {
	r, e := run.Load(l.into.p, x.S)
	if e != api.OK || !x.Text {
		return "", nil
	}
	items, _ := pack.Decode(x.S)
	return items[0].S, r
}

// join is false, if a key of the part was in one ahead, or there are too many keys.
func (l *loader) join() bool {
	for key, r := range l.part {
		if _, twice := l.into.runs[key]; twice {
			return false
		}
		l.into.runs[key] = r
	}
	return len(l.into.runs) <= maxKeys
}
