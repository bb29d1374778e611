package run

import "weaver/api"

// turn is one event's, while the run stays as it was: what comes of its partial matches behind the
// event, and which matches end with it.
type turn struct {
	*Run
	now    api.Event
	behind []partial
	ended  []partial
}

// allGoOn tells false, if there are too many partial matches behind the event. The matches are never
// more than api.MaxItems: of each partial match one at most ends with it, and one begins and ends.
func (t *turn) allGoOn() bool {
	t.goOn(beginning())
	for _, x := range t.live {
		t.goOn(x)
		if len(t.behind) > api.MaxLive {
			return false
		}
	}
	return true
}

func (t *turn) goOn(x partial) {
	s := t.step(x)
	if s.CanWait {
		x.node = s.Wait
		t.keep(x)
	}
	if s.CanLoop {
		t.take(x, s.Loop)
	}
	if s.CanTake {
		t.take(x, s.Take)
	}
}

// step asks of the roads that are open alone: behind the last stage there is none to be asked.
func (t *turn) step(x partial) api.Steps {
	n := x.node
	return t.steps[crossing{
		node: n,
		loop: n.Loop && t.meets(n.Stage-1, t.now, x.lasts),
		take: n.Take && t.meets(n.Stage, t.now, x.lasts),
	}]
}

func (t *turn) take(x partial, n api.Node) {
	grown := x.with(t.seen, t.now, n)
	t.keep(grown)
	if n.Stage == len(t.p.Stages) {
		t.ended = append(t.ended, grown)
	}
}

func (t *turn) keep(x partial) {
	if x.mayGoOn(t.seen+1, t.p.Within) {
		t.behind = append(t.behind, x)
	}
}
