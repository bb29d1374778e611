package run

import (
	"weaver/api"
	"weaver/event"
	"weaver/nfa"
	"weaver/pack"
	"weaver/pattern"
)

func Load(p api.Pattern, b string) (*Run, api.Errno) {
	if _, e := pattern.Check(p); e != api.OK {
		return nil, e
	}
	if len(b) > api.MaxBytes {
		return nil, api.ErrLong
	}
	items, f := pack.Decode(b)
	if f != (api.Fault{}) {
		return nil, api.ErrState
	}
	l := loader{items: items}
	r := l.run(p)
	if l.wrong || len(l.items) > 0 {
		return nil, api.ErrState
	}
	return r, api.OK
}

// loader takes what a run saved from the front of its items. From the first thing on that may not be
// it is wrong, and so is all that it told.
type loader struct {
	items []api.Item
	wrong bool
}

func (l *loader) must(ok bool) {
	if !ok {
		l.wrong = true
	}
}

// next is the zero item, a number, where there is none.
func (l *loader) next() api.Item {
	l.must(len(l.items) > 0)
	if l.wrong {
		return api.Item{}
	}
	x := l.items[0]
	l.items = l.items[1:]
	return x
}

func (l *loader) text() string {
	x := l.next()
	l.must(x.Text)
	return x.S
}

// number is the least one, if what stands there may not be: no great number comes of what is wrong.
func (l *loader) number(least, most int) int {
	x := l.next()
	l.must(!x.Text && int64(least) <= x.N && x.N <= int64(most))
	if l.wrong {
		return least
	}
	return int(x.N)
}

func (l *loader) run(p api.Pattern) *Run {
	key := l.text()
	l.must(isName(key))
	r := newRun(p, key)
	r.seen = l.number(0, api.MaxSeq)
	for many := l.number(0, api.MaxLive); len(r.live) < many && !l.wrong; {
		x := l.partial(r)
		l.must(len(r.live) == 0 || inOrder(r.live[len(r.live)-1], x) < 0)
		r.live = append(r.live, x)
	}
	return r
}

func (l *loader) partial(r *Run) partial {
	var x partial
	x.node.Stage = l.number(1, len(r.p.Stages))
	ahead := max(r.seen-r.p.Within, -1)
	for i := range x.node.Stage {
		places := l.places(r, i, ahead)
		x.stages = append(x.stages, places)
		x.lasts = append(x.lasts, l.last(r, i, x.lasts))
		ahead = places[len(places)-1]
	}
	x.node.Loop = l.number(0, 1) == 1
	x.node.Take = l.number(0, 1) == 1
	l.must(nfa.Check(r.p, x.node) == api.OK && (x.node.Loop || x.node.Take))
	return x
}

// places are those of a stage, at least one, behind the place ahead.
func (l *loader) places(r *Run, stage, ahead int) []int {
	most := 1
	if r.p.Stages[stage].Many {
		most = api.MaxWindow
	}
	many := l.number(1, most)
	var out []int
	for range many {
		ahead = l.number(ahead+1, r.seen-1)
		out = append(out, ahead)
	}
	return out
}

// last is a stage's last event, with those of the stages ahead.
func (l *loader) last(r *Run, stage int, lasts []api.Event) api.Event {
	e, no := event.Decode(l.text())
	l.must(no == api.OK && e.Key == r.key && r.meets(stage, e, lasts))
	return e
}
