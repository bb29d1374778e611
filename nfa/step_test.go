package nfa_test

import (
	"math/rand"
	"testing"

	"weaver/api"
	"weaver/nfa"
)

func wantBegun(t *testing.T, p api.Pattern, stage int, want api.Node) {
	t.Helper()
	if n, e := nfa.Begun(p, stage); n != want || e != api.OK {
		t.Errorf("Begun(%d) = %v, %d, want %v", stage, n, e, want)
	}
}

func wantStep(t *testing.T, p api.Pattern, n api.Node, loop, take bool, want api.Steps) {
	t.Helper()
	if s, e := nfa.Step(p, n, loop, take); s != want || e != api.OK {
		t.Errorf("Step(%v, %v, %v) = %+v, %d, want %+v", n, loop, take, s, e, want)
	}
}

func wantFinal(t *testing.T, p api.Pattern, n api.Node, want bool) {
	t.Helper()
	if ok, e := nfa.Final(p, n); ok != want || e != api.OK {
		t.Errorf("Final(%v) = %v, %d, want %v", n, ok, e, want)
	}
}

// 13.1, 13.2: the chapter's example.
func TestExample(t *testing.T) {
	p := read("start a+: n0 < 1; then b: n0 == 1; within 5")
	open := node(1, true, true)
	wantBegun(t, p, 1, open)
	wantBegun(t, p, 2, node(2, false, false))
	wantStep(t, p, open, false, false, api.Steps{Wait: node(1, false, true), CanWait: true})
	wantStep(t, p, open, false, true, api.Steps{Take: node(2, false, false), CanTake: true})
	wantFinal(t, p, open, false)
	wantFinal(t, p, node(2, false, false), true)
}

// 13.1: behind an event that was taken both roads are open that may be.
func TestBegun(t *testing.T) {
	wantBegun(t, shaped("start"), 1, node(1, false, false))
	wantBegun(t, shaped("start+"), 1, node(1, true, false))
	for _, how := range hows[1:] {
		wantBegun(t, shaped("start "+how), 1, node(1, false, true))
		wantBegun(t, shaped("start+ "+how), 1, node(1, true, true))
		wantBegun(t, shaped("start "+how), 2, node(2, false, false))
		wantBegun(t, shaped("start "+how+"+"), 2, node(2, true, false))
		wantBegun(t, shaped("start "+how+"+ next"), 2, node(2, true, true))
		wantBegun(t, shaped("start "+how+" any+"), 2, node(2, false, true))
	}
	most := shaped("start next then any next+ then+ any+ any")
	for stage := 1; stage <= api.MaxStages; stage++ {
		wantBegun(t, most, stage, node(stage, stage >= 5 && stage <= 7, stage < 8))
	}
}

// stays has what behind an event that was not taken becomes of a road to a stage, by how that stage
// follows, if the event held there, and if not.
var stays = []struct {
	how       string
	held, not bool
}{{"next", false, false}, {"then", false, true}, {"any", true, true}}

// waits is what a wait comes to that leads to the node.
func waits(n api.Node) api.Steps {
	if !n.Loop && !n.Take {
		return api.Steps{}
	}
	return api.Steps{Wait: n, CanWait: true}
}

// 13.2: the road to the next stage, for each way in which it may follow.
func TestTake(t *testing.T) {
	for _, x := range stays {
		p := shaped("start " + x.how)
		for _, loop := range []bool{false, true} { // no loop is there, whatever holds
			s := waits(node(1, false, x.held))
			s.Take, s.CanTake = node(2, false, false), true
			wantStep(t, p, node(1, false, true), loop, true, s)
			wantStep(t, p, node(1, false, true), loop, false, waits(node(1, false, x.not)))
			wantStep(t, p, node(1, false, false), loop, true, api.Steps{})
			wantStep(t, p, node(1, false, false), loop, false, api.Steps{})
		}
	}
}

// wantLoop asks for the road back to a last stage that takes many, held and not as in stays.
func wantLoop(t *testing.T, p api.Pattern, held, not bool) {
	t.Helper()
	k := len(p.Stages)
	for _, take := range []bool{false, true} { // no next stage is there, whatever holds
		s := waits(node(k, held, false))
		s.Loop, s.CanLoop = node(k, true, false), true
		wantStep(t, p, node(k, true, false), true, take, s)
		wantStep(t, p, node(k, true, false), false, take, waits(node(k, not, false)))
		wantStep(t, p, node(k, false, false), true, take, api.Steps{})
		wantStep(t, p, node(k, false, false), false, take, api.Steps{})
	}
}

// 13.2: the road back to the last stage, for each way in which it may follow.
func TestLoop(t *testing.T) {
	wantLoop(t, shaped("start+"), false, false)
	for _, x := range stays {
		wantLoop(t, shaped("start "+x.how+"+"), x.held, x.not)
	}
}

// 13.2: both roads at once, each by its own stage's way and its own condition; behind a loop both
// are open again.
func TestBothRoads(t *testing.T) {
	for _, a := range stays {
		for _, b := range stays {
			p := shaped("start " + a.how + "+ " + b.how + "+")
			for _, from := range []api.Node{node(2, true, true), node(2, true, false), node(2, false, true), node(2, false, false)} {
				for _, h := range allHolds {
					loop, take := a.not, b.not
					if h.loop {
						loop = a.held
					}
					if h.take {
						take = b.held
					}
					want := waits(node(2, from.Loop && loop, from.Take && take))
					if from.Loop && h.loop {
						want.Loop, want.CanLoop = node(2, true, true), true
					}
					if from.Take && h.take {
						want.Take, want.CanTake = node(3, true, false), true
					}
					wantStep(t, p, from, h.loop, h.take, want)
				}
			}
		}
	}
}

// 13.1: what is final has events for all stages, whichever roads are open.
func TestFinal(t *testing.T) {
	for k, p := range []api.Pattern{shaped("start+"), shaped("start+ any+"), shaped("start+ next+ then+"), shaped("start+ any+ any+ any+")} {
		for _, n := range allNodes(p) {
			if modelMay(p, n) {
				wantFinal(t, p, n, n.Stage == k+1)
			}
		}
	}
}

// 13.1, 13.2: all patterns of few stages, and some of more, held against the model at all nodes.
func TestAllShapes(t *testing.T) {
	eachShape(func(shape string, p api.Pattern) {
		for i := range p.Stages {
			wantBegun(t, p, i+1, modelNode(p, i+1, nil))
		}
		for _, n := range allNodes(p) {
			if !modelMay(p, n) {
				wantMayNot(t, p, n)
				continue
			}
			if e := nfa.Check(p, n); e != api.OK {
				t.Errorf("Check of %v: %d", n, e)
			}
			wantFinal(t, p, n, n.Stage == len(p.Stages))
			for _, h := range allHolds {
				wantStep(t, p, n, h.loop, h.take, modelStep(p, n, h))
			}
		}
		if t.Failed() {
			t.Fatal(shape)
		}
	})
}

// 13.2, 13.4: on long roads of events the node is what all events since the last one taken make it;
// a road that is shut stays so until one is taken, and a wait leads to no other stage.
func TestLongRoads(t *testing.T) {
	waited := 0
	for seed := range int64(3000) {
		r := rand.New(rand.NewSource(seed))
		p := shaped(someShape(r, 1+r.Intn(api.MaxStages)))
		n := modelNode(p, 1, nil)
		var since []holds
		for range 60 {
			h := holds{r.Intn(4) == 0, r.Intn(6) == 0}
			s, e := nfa.Step(p, n, h.loop, h.take)
			behind := modelNode(p, n.Stage, append(since, h))
			if s.CanWait != (behind.Loop || behind.Take) || s.CanWait && s.Wait != behind || e != api.OK {
				t.Fatalf("seed %d: %v behind %v: %+v, %d, want %v", seed, n, h, s, e, behind)
			}
			if s.CanWait && (s.Wait.Stage != n.Stage || s.Wait.Loop && !n.Loop || s.Wait.Take && !n.Take) {
				t.Fatalf("seed %d: %v waits as %v", seed, n, s.Wait)
			}
			switch {
			case s.CanWait && r.Intn(3) > 0:
				n, since = s.Wait, append(since, h)
				waited++
			case s.CanTake:
				n, since = s.Take, nil
			case s.CanLoop:
				n, since = s.Loop, nil
			default:
				n, since = modelNode(p, 1+r.Intn(len(p.Stages)), nil), nil
			}
		}
	}
	if waited < 10000 {
		t.Error("few waited:", waited)
	}
}
