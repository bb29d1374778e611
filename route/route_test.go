package route_test

import (
	"math"
	"math/rand"
	"slices"
	"strings"
	"testing"

	"weaver/api"
	"weaver/group"
	"weaver/route"
)

// wrongPlaces are not from 0 to n - 1.
func wrongPlaces(n int) []int {
	return []int{math.MinInt, math.MinInt32, -n, -1, n, n + 1, 1 << 31, 1 << 32, math.MaxInt - 1, math.MaxInt}
}

// drawn has a plan's channels as the chapter numbers them: by the task they come from, then by
// the one they go to.
func drawn(p route.Plan) [][2]int {
	kind := func(task int) int {
		if task < p.Sources {
			return 0
		}
		return 1 + (task-p.Sources)/p.Matchers
	}
	var channels [][2]int
	for from := range p.Tasks() {
		for to := range p.Tasks() {
			if kind(to) == kind(from)+1 {
				channels = append(channels, [2]int{from, to})
			}
		}
	}
	return channels
}

func wantKind(t *testing.T, p route.Plan, task, kind int) {
	t.Helper()
	if k, e := p.Kind(task); k != kind || e != api.OK {
		t.Errorf("%v.Kind(%d) = %d, %d, want %d", p, task, k, e, kind)
	}
}

func wantNoKind(t *testing.T, p route.Plan, task int, want api.Errno) {
	t.Helper()
	if k, e := p.Kind(task); k != 0 || e != want {
		t.Errorf("%v.Kind(%d) = %d, %d, want 0, %d", p, task, k, e, want)
	}
}

func wantEnds(t *testing.T, p route.Plan, channel, from, to int) {
	t.Helper()
	if f, b, e := p.Ends(channel); f != from || b != to || e != api.OK {
		t.Errorf("%v.Ends(%d) = %d, %d, %d, want %d, %d", p, channel, f, b, e, from, to)
	}
}

func wantNoEnds(t *testing.T, p route.Plan, channel int) {
	t.Helper()
	if f, b, e := p.Ends(channel); f != 0 || b != 0 || e != api.ErrRange {
		t.Errorf("%v.Ends(%d) = %d, %d, %d, want 0, 0, %d", p, channel, f, b, e, api.ErrRange)
	}
}

func wantIns(t *testing.T, p route.Plan, task int, channels ...int) {
	t.Helper()
	if l, e := p.Ins(task); !slices.Equal(l, channels) || e != api.OK {
		t.Errorf("%v.Ins(%d) = %v, %d, want %v", p, task, l, e, channels)
	}
}

func wantOuts(t *testing.T, p route.Plan, task int, channels ...int) {
	t.Helper()
	if l, e := p.Outs(task); !slices.Equal(l, channels) || e != api.OK {
		t.Errorf("%v.Outs(%d) = %v, %d, want %v", p, task, l, e, channels)
	}
}

func wantNoChannels(t *testing.T, p route.Plan, task int, want api.Errno) {
	t.Helper()
	if l, e := p.Ins(task); len(l) != 0 || e != want {
		t.Errorf("%v.Ins(%d) = %v, %d, want none, %d", p, task, l, e, want)
	}
	if l, e := p.Outs(task); len(l) != 0 || e != want {
		t.Errorf("%v.Outs(%d) = %v, %d, want none, %d", p, task, l, e, want)
	}
}

func wantRoute(t *testing.T, p route.Plan, source int, key string, channel int) {
	t.Helper()
	if c, e := p.Route(source, key); c != channel || e != api.OK {
		t.Errorf("%v.Route(%d, %.40q) = %d, %d, want %d", p, source, key, c, e, channel)
	}
}

func wantNoRoute(t *testing.T, p route.Plan, source int, key string, want api.Errno) {
	t.Helper()
	if c, e := p.Route(source, key); c != 0 || e != want {
		t.Errorf("%v.Route(%d, %.40q) = %d, %d, want 0, %d", p, source, key, c, e, want)
	}
}

// 7.2: the chapter's example, all of it.
func TestExample(t *testing.T) {
	p := of(4, 2, 2)
	for task, kind := range []int{0, 0, 1, 1, 2} {
		wantKind(t, p, task, kind)
	}
	for c, x := range [][2]int{{0, 2}, {0, 3}, {1, 2}, {1, 3}, {2, 4}, {3, 4}} {
		wantEnds(t, p, c, x[0], x[1])
	}
	for task, ins := range [][]int{{}, {}, {0, 2}, {1, 3}, {4, 5}} {
		wantIns(t, p, task, ins...)
	}
	for task, outs := range [][]int{{0, 1}, {2, 3}, {4}, {5}, {}} {
		wantOuts(t, p, task, outs...)
	}
	wantRoute(t, p, 0, "a", 0)
}

// 7.2: more matchers than sources, and fewer.
func TestUnlikeNumbers(t *testing.T) {
	p := of(9, 1, 3)
	for task, kind := range []int{0, 1, 1, 1, 2} {
		wantKind(t, p, task, kind)
	}
	for c, x := range [][2]int{{0, 1}, {0, 2}, {0, 3}, {1, 4}, {2, 4}, {3, 4}} {
		wantEnds(t, p, c, x[0], x[1])
	}
	wantOuts(t, p, 0, 0, 1, 2)
	wantIns(t, p, 4, 3, 4, 5)
	p = of(9, 3, 1)
	for task, kind := range []int{0, 0, 0, 1, 2} {
		wantKind(t, p, task, kind)
	}
	for c, x := range [][2]int{{0, 3}, {1, 3}, {2, 3}, {3, 4}} {
		wantEnds(t, p, c, x[0], x[1])
	}
	wantIns(t, p, 3, 0, 1, 2)
	wantOuts(t, p, 3, 3)
}

// 7.2: the tasks' kinds at all plans, whatever the groups.
func TestKinds(t *testing.T) {
	eachPlan([]int{1, 2, 5, 16, 17, api.MaxGroups}, func(p route.Plan) {
		kinds := slices.Repeat([]int{0}, p.Sources)
		kinds = append(kinds, slices.Repeat([]int{1}, p.Matchers)...)
		for task, kind := range append(kinds, 2) {
			wantKind(t, p, task, kind)
		}
	})
}

// 7.1, 7.2: the channels at all plans, held against those that are drawn.
func TestChannels(t *testing.T) {
	eachPlan([]int{1, 2, 5, 16, api.MaxGroups}, func(p route.Plan) {
		channels := drawn(p)
		wantPlan(t, p, p.Sources+p.Matchers+1, len(channels))
		ins, outs := make([][]int, p.Tasks()), make([][]int, p.Tasks())
		for c, x := range channels {
			wantEnds(t, p, c, x[0], x[1])
			outs[x[0]] = append(outs[x[0]], c)
			ins[x[1]] = append(ins[x[1]], c)
		}
		for task := range p.Tasks() {
			wantIns(t, p, task, ins[task]...)
			wantOuts(t, p, task, outs[task]...)
		}
	})
}

// 7.2, 7.3, P1: tasks and channels that there are not.
func TestWrongPlaces(t *testing.T) {
	eachPlan([]int{1, 4, 16, api.MaxGroups}, func(p route.Plan) {
		for _, task := range wrongPlaces(p.Tasks()) {
			wantNoKind(t, p, task, api.ErrTask)
			wantNoChannels(t, p, task, api.ErrTask)
			wantNoRoute(t, p, task, "a", api.ErrTask)
		}
		for _, channel := range wrongPlaces(p.Channels()) {
			wantNoEnds(t, p, channel)
		}
	})
}

// 7.3: matchers and the sink send no events on by their keys.
func TestRouteFromNoSource(t *testing.T) {
	eachPlan([]int{1, 4, 16, api.MaxGroups}, func(p route.Plan) {
		for task := p.Sources; task < p.Tasks(); task++ {
			wantNoRoute(t, p, task, "a", api.ErrTask)
			wantNoRoute(t, p, task, "", api.ErrTask)
		}
	})
}

// 7.3: keys whose groups are known: a hashes to 3826002220, b to 3876335077, nothing to 2166136261.
func TestRoute(t *testing.T) {
	wantRoute(t, of(4, 2, 2), 1, "a", 2)
	wantRoute(t, of(4, 2, 2), 0, "b", 0)
	wantRoute(t, of(2, 2, 2), 0, "b", 1)
	wantRoute(t, of(2, 2, 2), 1, "b", 3)
	wantRoute(t, of(7, 3, 4), 2, "b", 8+3)
	wantRoute(t, of(10, 3, 3), 2, "b", 6+2)
	wantRoute(t, of(10, 3, 3), 2, "a", 6+0)
	wantRoute(t, of(10, 3, 3), 1, "", 3+0)
	wantRoute(t, of(16, 16, 16), 15, "a", 15*16+12)
	wantRoute(t, of(128, 16, 16), 15, "", 15*16+8)
	wantRoute(t, of(1, 1, 1), 0, "any key", 0)
}

// 7.3, 7.4: any text is a key; its channel goes from the source to the owner of its group, at all plans.
func TestRouteOfAnyKey(t *testing.T) {
	keys := []string{"", "a", "b", "key", "\x00", "\xff\xfe", "é", strings.Repeat("k", api.MaxName+1), strings.Repeat("\xff", 1<<9)}
	r := rand.New(rand.NewSource(7))
	for range 9 {
		b := make([]byte, r.Intn(40))
		r.Read(b)
		keys = append(keys, string(b))
	}
	groups := []int{1, 2, 3, 5, 7, 10, 15, 16, 17, 31, 64, 100, 127, 128}
	eachPlan(groups, func(p route.Plan) {
		for _, key := range keys {
			i, e := group.Owner(p.Groups, p.Matchers, int(group.Hash(key)%uint32(p.Groups)))
			if e != api.OK {
				t.Fatal(p, e)
			}
			for source := range p.Sources {
				c, e := p.Route(source, key)
				if e != api.OK {
					t.Fatalf("%v.Route(%d, %.40q) = %d, %d", p, source, key, c, e)
				}
				wantEnds(t, p, c, source, p.Sources+i)
			}
		}
	})
}

// 7.4: each channel is one of the outs of the task it comes from and of the ins of the one it goes to, and of no other's.
func TestEachChannelHasItsEnds(t *testing.T) {
	eachPlan([]int{1, 3, api.MaxGroups}, func(p route.Plan) {
		for channel := range p.Channels() {
			from, to, _ := p.Ends(channel)
			if outs, _ := p.Outs(from); !slices.Contains(outs, channel) {
				t.Errorf("%v: %d comes from %d, whose outs are %v", p, channel, from, outs)
			}
			if ins, _ := p.Ins(to); !slices.Contains(ins, channel) {
				t.Errorf("%v: %d goes to %d, whose ins are %v", p, channel, to, ins)
			}
		}
		outs, ins := 0, 0
		for task := range p.Tasks() {
			l, _ := p.Outs(task)
			outs += len(l)
			l, _ = p.Ins(task)
			ins += len(l)
		}
		if n := p.Channels(); outs != n || ins != n {
			t.Errorf("%v: %d channels, but %d outs and %d ins", p, n, outs, ins)
		}
	})
}

// 7.4: enough keys find each matcher, from each source the same one.
func TestKeysFindAllMatchers(t *testing.T) {
	eachPlan([]int{16, api.MaxGroups}, func(p route.Plan) {
		found := make([]int, p.Tasks())
		for n := range 1 << 8 {
			key := string([]byte{'k', byte(n)})
			c, _ := p.Route(0, key)
			_, first, _ := p.Ends(c)
			found[first]++
			c, _ = p.Route(p.Sources-1, key)
			if _, last, _ := p.Ends(c); last != first {
				t.Errorf("%v: %q goes to %d and to %d", p, key, first, last)
			}
		}
		if slices.Min(found[p.Sources:p.Tasks()-1]) < 1 {
			t.Errorf("%v: the tasks get %v", p, found)
		}
	})
}

// R4, R7: a list that is written over, its spare room too, changes no other answer, and no call changes the plan.
func TestListsShareNothing(t *testing.T) {
	p := of(8, 3, 5)
	ins, _ := p.Ins(8)
	outs, _ := p.Outs(2)
	again, _ := p.Ins(8)
	for _, l := range [][]int{ins[:cap(ins)], outs[:cap(outs)]} {
		for i := range l {
			l[i] = -7
		}
	}
	if !slices.Equal(again, []int{15, 16, 17, 18, 19}) {
		t.Error(again)
	}
	wantIns(t, p, 8, 15, 16, 17, 18, 19)
	wantOuts(t, p, 2, 10, 11, 12, 13, 14)
	if p != of(8, 3, 5) {
		t.Error(p)
	}
}

// R7: plans are values: methods that are taken as expressions tell what the plan's own tell.
func TestMethodsAsExpressions(t *testing.T) {
	p := of(10, 3, 3)
	for task := -1; task <= p.Tasks(); task++ {
		for _, call := range []func(route.Plan, int) ([]int, api.Errno){route.Plan.Ins, route.Plan.Outs} {
			l, e := call(p, task)
			m, f := call(of(10, 3, 3), task)
			if !slices.Equal(l, m) || e != f {
				t.Error(task, l, e, m, f)
			}
		}
	}
	if n := route.Plan.Tasks(p); n != 7 {
		t.Error(n)
	}
}
