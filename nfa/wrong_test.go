package nfa_test

import (
	"fmt"
	"math"
	"reflect"
	"slices"
	"strings"
	"testing"

	"weaver/api"
	"weaver/nfa"
)

// wantMayNot: Check, Step and Final refuse the node, and tell nothing beside that (R5).
func wantMayNot(t *testing.T, p api.Pattern, n api.Node) {
	t.Helper()
	wantRefused(t, p, n, api.ErrState)
}

func wantRefused(t *testing.T, p api.Pattern, n api.Node, want api.Errno) {
	t.Helper()
	if e := nfa.Check(p, n); e != want {
		t.Errorf("Check(%v) = %d, want %d", n, e, want)
	}
	if ok, e := nfa.Final(p, n); ok || e != want {
		t.Errorf("Final(%v) = %v, %d, want %d", n, ok, e, want)
	}
	for _, h := range allHolds {
		if s, e := nfa.Step(p, n, h.loop, h.take); s != (api.Steps{}) || e != want {
			t.Errorf("Step(%v, %v) = %+v, %d, want %d", n, h, s, e, want)
		}
	}
}

// noStages are the numbers of no stage of a pattern that has so many.
func noStages(k int) []int {
	return []int{math.MinInt, math.MinInt32, -k - 1, -k, -1, 0, k + 1, k + 2, api.MaxStages + 1, 256, 256 + k, 1<<16 + k, 1<<32 + k, math.MaxInt32, math.MaxInt - 1, math.MaxInt}
}

// 13.1: a node has from 1 to k stages with events; Begun is asked of one of them.
func TestNoStage(t *testing.T) {
	for k := 1; k <= api.MaxStages; k++ {
		p := shaped("start+" + strings.Repeat(" any+", k-1))
		for _, stage := range noStages(k) {
			for _, h := range allHolds {
				wantMayNot(t, p, node(stage, h.loop, h.take))
			}
			if n, e := nfa.Begun(p, stage); n != (api.Node{}) || e != api.ErrRange {
				t.Errorf("Begun(%d) of %d = %v, %d", stage, k, n, e)
			}
		}
	}
}

// 13.1: Loop is open only where the stage takes many, Take only where there is a next one; shut
// roads may always be.
func TestNoRoad(t *testing.T) {
	p := shaped("start next+ then")
	may := []api.Node{node(1, false, true), node(1, false, false), node(2, true, true), node(2, true, false), node(2, false, true), node(2, false, false), node(3, false, false)}
	for _, n := range allNodes(p) {
		if !slices.Contains(may, n) {
			wantMayNot(t, p, n)
		} else if e := nfa.Check(p, n); e != api.OK {
			t.Errorf("Check(%v) = %d", n, e)
		}
	}
	for _, how := range hows[1:] {
		wantMayNot(t, shaped("start "+how), node(1, true, true))
		wantMayNot(t, shaped("start+ "+how), node(2, false, true))
		wantMayNot(t, shaped("start+ "+how), node(2, true, false))
		wantMayNot(t, shaped("start+ "+how+"+"), node(2, true, true))
	}
}

// wrongPatterns may not be, each for one reason.
func wrongPatterns() map[string]api.Pattern {
	l := map[string]api.Pattern{
		"none":         {},
		"no stages":    {Stages: []api.Stage{}, Within: 5},
		"one too many": {Stages: make([]api.Stage, api.MaxStages+1), Within: 5},
		"great":        {Stages: make([]api.Stage, 1<<12), Within: 5},
		"empty stage":  {Stages: make([]api.Stage, 1), Within: 5},
	}
	for i := range l["one too many"].Stages {
		l["one too many"].Stages[i] = api.Stage{Name: fmt.Sprint("s", i), How: min(i, 1), Cond: read("start a: n0 < 1; within 5").Stages[0].Cond}
	}
	for name, spoil := range map[string]func(p *api.Pattern){
		"within 0":          func(p *api.Pattern) { p.Within = 0 },
		"within -1":         func(p *api.Pattern) { p.Within = -1 },
		"within 257":        func(p *api.Pattern) { p.Within = api.MaxWindow + 1 },
		"next is first":     func(p *api.Pattern) { p.Stages[0].How = api.SNext },
		"any is first":      func(p *api.Pattern) { p.Stages[0].How = api.SAny },
		"start is later":    func(p *api.Pattern) { p.Stages[1].How = api.SStart },
		"how 4":             func(p *api.Pattern) { p.Stages[2].How = 4 },
		"how -1":            func(p *api.Pattern) { p.Stages[2].How = -1 },
		"same names":        func(p *api.Pattern) { p.Stages[2].Name = p.Stages[0].Name },
		"no name":           func(p *api.Pattern) { p.Stages[1].Name = "" },
		"a word as name":    func(p *api.Pattern) { p.Stages[1].Name = "or" },
		"no condition":      func(p *api.Pattern) { p.Stages[2].Cond = nil },
		"half a condition":  func(p *api.Pattern) { p.Stages[2].Cond = p.Stages[2].Cond[:2] },
		"a number":          func(p *api.Pattern) { p.Stages[0].Cond = p.Stages[0].Cond[1:2] },
		"asks for itself":   func(p *api.Pattern) { p.Stages[1].Cond[1].Stage = "s1" },
		"asks for later":    func(p *api.Pattern) { p.Stages[1].Cond[1].Stage = "s2" },
		"asks for no stage": func(p *api.Pattern) { p.Stages[1].Cond[1].Stage = "z" },
	} {
		p := shaped("start+ then+ any+")
		spoil(&p)
		l[name] = p
	}
	return l
}

// 13.1, R1, R5: what chapter 12 refuses of the pattern, whatever the node or the stage is.
func TestWrongPatterns(t *testing.T) {
	for name, p := range wrongPatterns() {
		for _, stage := range append(noStages(len(p.Stages)), 1, 2, 3, len(p.Stages)) {
			for _, h := range allHolds {
				wantRefused(t, p, node(stage, h.loop, h.take), api.ErrPattern)
			}
			if n, e := nfa.Begun(p, stage); n != (api.Node{}) || e != api.ErrPattern {
				t.Errorf("Begun(%d) = %v, %d", stage, n, e)
			}
		}
		if l, e := nfa.Nodes(p); len(l) != 0 || e != api.ErrPattern {
			t.Errorf("Nodes = %v, %d", l, e)
		}
		if t.Failed() {
			t.Fatal(name)
		}
	}
}

// R4: the pattern is not changed, and what lies behind its stages is not asked for: the last one
// has no next one.
func TestBehindThePattern(t *testing.T) {
	p := shaped("start+ then+ any+ next")
	was := shaped("start+ then+ any+ next")
	p.Stages = p.Stages[:3]
	wantBegun(t, p, 3, node(3, true, false))
	wantMayNot(t, p, node(3, true, true))
	wantMayNot(t, p, node(4, false, false))
	wantFinal(t, p, node(3, false, false), true)
	wantStep(t, p, node(3, true, false), true, true, api.Steps{Loop: node(3, true, false), CanLoop: true, Wait: node(3, true, false), CanWait: true})
	wantNodes(t, p, node(1, true, true), node(1, false, true), node(2, true, true), node(2, false, true), node(3, true, false))
	p.Stages = p.Stages[:4]
	if !reflect.DeepEqual(p, was) {
		t.Errorf("the pattern is %+v now, was %+v", p, was)
	}
}
