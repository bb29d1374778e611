package nfa_test

import (
	"slices"
	"testing"

	"weaver/api"
	"weaver/nfa"
)

func wantNodes(t *testing.T, p api.Pattern, want ...api.Node) {
	t.Helper()
	if l, e := nfa.Nodes(p); !slices.Equal(l, want) || e != api.OK {
		t.Errorf("Nodes = %v, %d, want %v", l, e, want)
	}
}

// 13.3: one stage, and both roads of the first one.
func TestNodes(t *testing.T) {
	wantNodes(t, shaped("start"), node(1, false, false))
	wantNodes(t, shaped("start+"), node(1, true, false))
	end := node(2, false, false)
	wantNodes(t, shaped("start next"), node(1, false, true), end)
	wantNodes(t, shaped("start then"), node(1, false, true), end)
	wantNodes(t, shaped("start any"), node(1, false, true), end)
	wantNodes(t, shaped("start+ next"), node(1, true, true), end)
	wantNodes(t, shaped("start+ then"), node(1, true, true), node(1, false, true), end)
	wantNodes(t, shaped("start+ any"), node(1, true, true), node(1, false, true), end)
}

// 13.3: which nodes a stage in the middle has, by how it and the next one follow: in their order,
// without those that no wait leads to, and without the dead one.
func TestNodesBetween(t *testing.T) {
	both, loop, take := node(2, true, true), node(2, true, false), node(2, false, true)
	for shape, middle := range map[string][]api.Node{
		"start next+ next": {both},
		"start next+ then": {both, take},
		"start next+ any":  {both, take},
		"start then+ next": {both, loop},
		"start then+ then": {both, loop, take},
		"start then+ any":  {both, take},
		"start any+ next":  {both, loop},
		"start any+ then":  {both, loop},
		"start any+ any":   {both},
		"start next next":  {take},
		"start any then":   {take},
		"start then any":   {take},
	} {
		want := append([]api.Node{node(1, false, true)}, middle...)
		wantNodes(t, shaped(shape), append(want, node(3, false, false))...)
		wantNodes(t, shaped(shape+"+"), append(want, node(3, true, false))...)
	}
}

// 13.3: as many nodes as can be.
func TestMostNodes(t *testing.T) {
	want := []api.Node{node(1, true, true), node(1, false, true)}
	for stage := 2; stage < api.MaxStages; stage++ {
		want = append(want, node(stage, true, true), node(stage, true, false), node(stage, false, true))
	}
	wantNodes(t, shaped("start+ then+ then+ then+ then+ then+ then+ then+"), append(want, node(8, true, false))...)
}

// 13.3: held against rows of events, and against Begun and Step: what is told is closed, and has
// nothing that does not come out of them.
func TestNodesOfAllShapes(t *testing.T) {
	eachShape(func(shape string, p api.Pattern) {
		wantNodes(t, p, modelNodes(p)...)
		l, _ := nfa.Nodes(p)
		var out []api.Node
		for i := range p.Stages {
			n, _ := nfa.Begun(p, i+1)
			out = append(out, n)
		}
		for _, n := range l {
			if e := nfa.Check(p, n); e != api.OK {
				t.Errorf("Check of %v: %d", n, e)
			}
			for _, h := range allHolds {
				s, _ := nfa.Step(p, n, h.loop, h.take)
				for _, to := range []api.Node{s.Loop, s.Take, s.Wait} {
					if to != (api.Node{}) {
						out = append(out, to)
					}
				}
			}
		}
		for _, n := range out {
			if !slices.Contains(l, n) {
				t.Errorf("%v is not among %v", n, l)
			}
		}
		for _, n := range l {
			if !slices.Contains(out, n) {
				t.Errorf("%v does not come out", n)
			}
		}
		if t.Failed() {
			t.Fatal(shape)
		}
	})
}

// R4, R7: each answer is new memory, its spare room too, and the same.
func TestNodesAreNew(t *testing.T) {
	p := shaped("start+ then+ then+ any+")
	was, _ := nfa.Nodes(p)
	kept := slices.Clone(was)
	again, _ := nfa.Nodes(p)
	for _, l := range [][]api.Node{was, again} {
		l = l[:cap(l)]
		for i := range l {
			l[i] = node(99, true, true)
		}
		wantNodes(t, p, kept...)
	}
	other, _ := nfa.Nodes(p)
	if _, e := nfa.Nodes(shaped("start")); e != api.OK || !slices.Equal(other, kept) {
		t.Error(e, other)
	}
}
