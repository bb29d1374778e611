package nfa_test

import (
	"cmp"
	"fmt"
	"math/rand"
	"slices"
	"strings"
	"testing"

	"weaver/api"
	"weaver/pattern"
)

func node(stage int, loop, take bool) api.Node {
	return api.Node{Stage: stage, Loop: loop, Take: take}
}

// read is a pattern that may be.
func read(s string) api.Pattern {
	p, f := pattern.Read(s)
	if f != (api.Fault{}) {
		panic(fmt.Sprint(s, f))
	}
	return p
}

var hows = []string{"start", "next", "then", "any"}

// shaped is a pattern whose stages follow and take many as a row of such words says: "start+ any".
func shaped(shape string) api.Pattern {
	var s strings.Builder
	for i, word := range strings.Fields(shape) {
		how, many := strings.CutSuffix(word, "+")
		plus := ""
		if many {
			plus = "+"
		}
		fmt.Fprintf(&s, "%s s%d%s: n0 == %d; ", how, i, plus, i)
	}
	return read(s.String() + "within 9")
}

// shapes are those of so many stages, all of them.
func shapes(stages int) []string {
	l := []string{"start", "start+"}
	for range stages - 1 {
		var longer []string
		for _, s := range l {
			for _, how := range hows[1:] {
				longer = append(longer, s+" "+how, s+" "+how+"+")
			}
		}
		l = longer
	}
	return l
}

func someShape(r *rand.Rand, stages int) string {
	l := make([]string, stages)
	for i := range l {
		l[i] = hows[0]
		if i > 0 {
			l[i] = hows[1+r.Intn(3)]
		}
		if r.Intn(2) == 0 {
			l[i] += "+"
		}
	}
	return strings.Join(l, " ")
}

// eachShape calls with all patterns of few stages, and some of more, up to as many as may be.
func eachShape(call func(shape string, p api.Pattern)) {
	for stages := 1; stages <= 4; stages++ {
		for _, s := range shapes(stages) {
			call(s, shaped(s))
		}
	}
	r := rand.New(rand.NewSource(13))
	for stages := 5; stages <= api.MaxStages; stages++ {
		for range 60 {
			s := someShape(r, stages)
			call(s, shaped(s))
		}
	}
}

// holds is of an event: for the last stage that has events, and for the next one.
type holds struct{ loop, take bool }

var allHolds = []holds{{false, false}, {false, true}, {true, false}, {true, true}}

// modelOpen tells by all events since the last one that was taken whether the next one may be taken
// into a stage that follows so: what chapter 14 lets lie between two places.
func modelOpen(how int, since []bool) bool {
	switch how {
	case api.SStart, api.SNext:
		return len(since) == 0
	case api.SThen:
		return !slices.Contains(since, true)
	}
	return true
}

// modelNode is the node behind an event that was taken into the stage, and others that were not.
func modelNode(p api.Pattern, stage int, since []holds) api.Node {
	n := node(stage, false, false)
	var loops, takes []bool
	for _, h := range since {
		loops, takes = append(loops, h.loop), append(takes, h.take)
	}
	if last := p.Stages[stage-1]; last.Many {
		n.Loop = modelOpen(last.How, loops)
	}
	if ahead := p.Stages[stage:]; len(ahead) > 0 {
		n.Take = modelOpen(ahead[0].How, takes)
	}
	return n
}

func modelMay(p api.Pattern, n api.Node) bool {
	switch {
	case n.Stage <= 0 || n.Stage > len(p.Stages):
		return false
	case n.Loop && !p.Stages[n.Stage-1].Many:
		return false
	}
	return !n.Take || n.Stage != len(p.Stages)
}

// modelStep is of a node that may be.
func modelStep(p api.Pattern, n api.Node, h holds) api.Steps {
	var s api.Steps
	if h.loop && n.Loop {
		s.CanLoop = true
		s.Loop = modelNode(p, n.Stage, nil)
	}
	if h.take && n.Take {
		s.CanTake = true
		s.Take = modelNode(p, n.Stage+1, nil)
	}
	one := modelNode(p, n.Stage, []holds{h})
	one.Loop = one.Loop && n.Loop
	one.Take = one.Take && n.Take
	if one.Loop || one.Take {
		s.CanWait, s.Wait = true, one
	}
	return s
}

// modelNodes goes over all rows of up to three events behind each stage's beginning: two are enough
// to shut each road by an event of its own.
func modelNodes(p api.Pattern) []api.Node {
	var l []api.Node
	for stage := 1; stage <= len(p.Stages); stage++ {
		rows := [][]holds{nil}
		for range 4 {
			var longer [][]holds
			for _, row := range rows {
				if n := modelNode(p, stage, row); len(row) == 0 || n.Loop || n.Take {
					l = append(l, n)
				}
				for _, h := range allHolds {
					longer = append(longer, append(slices.Clone(row), h))
				}
			}
			rows = longer
		}
	}
	rank := func(open bool) int {
		if open {
			return 0
		}
		return 1
	}
	slices.SortFunc(l, func(a, b api.Node) int {
		return cmp.Or(a.Stage-b.Stage, rank(a.Loop)-rank(b.Loop), rank(a.Take)-rank(b.Take))
	})
	return slices.Compact(l)
}

// allNodes are those of the pattern's stages, whether they may be or not.
func allNodes(p api.Pattern) []api.Node {
	var l []api.Node
	for i := range p.Stages {
		for _, h := range allHolds {
			l = append(l, node(i+1, h.loop, h.take))
		}
	}
	return l
}

// The model tells the chapter's example.
func TestModel(t *testing.T) {
	p := read("start a+: n0 < 1; then b: n0 == 1; within 5")
	open := node(1, true, true)
	if n := modelNode(p, 1, nil); n != open {
		t.Error(n)
	}
	if s := modelStep(p, open, holds{}); s != (api.Steps{Wait: node(1, false, true), CanWait: true}) {
		t.Error(s)
	}
	if s := modelStep(p, open, holds{take: true}); s != (api.Steps{Take: node(2, false, false), CanTake: true}) {
		t.Error(s)
	}
	if l := modelNodes(p); !slices.Equal(l, []api.Node{open, node(1, false, true), node(2, false, false)}) {
		t.Error(l)
	}
}
