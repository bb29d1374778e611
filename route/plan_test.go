package route_test

import (
	"math"
	"testing"

	"weaver/api"
	"weaver/route"
)

// anyNumbers are right and wrong ones, for each number that a plan has and for each argument.
var anyNumbers = []int{math.MinInt, math.MinInt32, -16, -1, 0, 1, 2, 15, 16, 17, 127, 128, 129, 1 << 31, 1 << 32, 1<<32 + 1, 1 << 62, math.MaxInt - 1, math.MaxInt}

func of(groups, sources, matchers int) route.Plan {
	return route.Plan{Groups: groups, Sources: sources, Matchers: matchers}
}

// mayBe is said with numbers, as the chapter and the limits say it.
func mayBe(p route.Plan) bool {
	if p.Groups < 1 || p.Groups > 128 {
		return false
	}
	if p.Matchers < 1 || p.Matchers > p.Groups || p.Matchers > 16 {
		return false
	}
	return p.Sources >= 1 && p.Sources <= 16
}

// eachPlan calls with each plan that may be and has one of these numbers of groups.
func eachPlan(groups []int, call func(p route.Plan)) {
	for _, g := range groups {
		for sources := 1; sources <= api.MaxTasks; sources++ {
			for matchers := 1; matchers <= min(g, api.MaxTasks); matchers++ {
				call(of(g, sources, matchers))
			}
		}
	}
}

func wantPlan(t *testing.T, p route.Plan, tasks, channels int) {
	t.Helper()
	if e := p.Check(); e != api.OK {
		t.Errorf("%v.Check() = %d", p, e)
	}
	if n := p.Tasks(); n != tasks {
		t.Errorf("%v.Tasks() = %d, want %d", p, n, tasks)
	}
	if n := p.Channels(); n != channels {
		t.Errorf("%v.Channels() = %d, want %d", p, n, channels)
	}
}

// wantNoPlan holds a plan's calls without an argument against those of one that may not be.
func wantNoPlan(t *testing.T, p route.Plan) {
	t.Helper()
	if e := p.Check(); e != api.ErrRange {
		t.Errorf("%v.Check() = %d, want %d", p, e, api.ErrRange)
	}
	if tasks, channels := p.Tasks(), p.Channels(); tasks != 0 || channels != 0 {
		t.Errorf("%v has %d tasks and %d channels, want none", p, tasks, channels)
	}
}

// 7.1: the chapter's example, the least plan and the greatest one.
func TestPlan(t *testing.T) {
	wantPlan(t, of(4, 2, 2), 5, 6)
	wantPlan(t, of(1, 1, 1), 3, 2)
	wantPlan(t, of(4, 1, 3), 5, 6)
	wantPlan(t, of(4, 3, 1), 5, 4)
	wantPlan(t, of(api.MaxGroups, 1, 1), 3, 2)
	wantPlan(t, of(api.MaxGroups, api.MaxParts, api.MaxTasks), 33, 272)
	wantPlan(t, of(16, 16, 16), 33, 272)
	wantPlan(t, of(1, 16, 1), 18, 17)
}

// 7.1: each number at the edge of what it may be, and one step behind it.
func TestPlanEdges(t *testing.T) {
	for _, p := range []route.Plan{
		{}, of(0, 1, 1), of(-1, 1, 1), of(api.MaxGroups+1, 1, 1),
		of(4, 0, 1), of(4, -1, 1), of(4, api.MaxParts+1, 1), of(4, api.MaxTasks+1, 1),
		of(4, 1, 0), of(4, 1, -1), of(4, 1, 5), of(1, 1, 2), of(15, 1, 16), of(api.MaxGroups, 1, api.MaxTasks+1), of(17, 1, 17),
		of(0, 1, 0), of(-1, 1, -1), of(-1, -1, -1),
	} {
		wantNoPlan(t, p)
	}
	for groups := 1; groups <= api.MaxGroups; groups++ {
		wantNoPlan(t, of(groups, 1, groups+1))
		most := min(groups, api.MaxTasks)
		wantPlan(t, of(groups, 1, most), most+2, 2*most)
	}
}

// 7.1: all plans of small numbers and of the greatest ones, whether they may be or not.
func TestAllPlans(t *testing.T) {
	for groups := -2; groups <= api.MaxGroups+2; groups++ {
		for sources := -2; sources <= api.MaxTasks+2; sources++ {
			for matchers := -2; matchers <= api.MaxTasks+2; matchers++ {
				wantAsModel(t, of(groups, sources, matchers))
			}
		}
	}
	for _, groups := range anyNumbers {
		for _, sources := range anyNumbers {
			for _, matchers := range anyNumbers {
				wantAsModel(t, of(groups, sources, matchers))
			}
		}
	}
}

func wantAsModel(t *testing.T, p route.Plan) {
	t.Helper()
	if mayBe(p) {
		wantPlan(t, p, p.Sources+p.Matchers+1, p.Sources*p.Matchers+p.Matchers)
	} else {
		wantNoPlan(t, p)
	}
}

// 7.1, P1: of a plan that may not be all others answer ErrRange, whatever they are asked.
func TestNoPlanAnswers(t *testing.T) {
	for _, groups := range anyNumbers {
		for _, sources := range anyNumbers {
			for _, matchers := range anyNumbers {
				p := of(groups, sources, matchers)
				if mayBe(p) {
					continue
				}
				for _, x := range anyNumbers {
					wantNoKind(t, p, x, api.ErrRange)
					wantNoEnds(t, p, x)
					wantNoChannels(t, p, x, api.ErrRange)
					wantNoRoute(t, p, x, "a", api.ErrRange)
				}
			}
		}
	}
}
