package group_test

import (
	"math"
	"slices"
	"testing"

	"weaver/api"
	"weaver/group"
)

// mostTasks is how many tasks may have that many groups.
func mostTasks(groups int) int { return min(groups, api.MaxTasks) }

// wrongTasks may not be the number of tasks of that many groups.
func wrongTasks(groups int) []int {
	return []int{math.MinInt, math.MinInt32, -2, -1, 0, mostTasks(groups) + 1, groups + 1, api.MaxTasks + 1, api.MaxGroups, api.MaxGroups + 1, 1 << 31, 1<<32 + 1, math.MaxInt - 1, math.MaxInt}
}

// wrongPlaces are not from 0 to n - 1.
func wrongPlaces(n int) []int {
	return []int{math.MinInt, math.MinInt32, -n, -1, n, n + 1, 1 << 31, 1 << 32, math.MaxInt - 1, math.MaxInt}
}

// eachTasks calls with each number of groups, and of tasks that may have them.
func eachTasks(call func(groups, tasks int)) {
	for groups := 1; groups <= api.MaxGroups; groups++ {
		for tasks := 1; tasks <= mostTasks(groups); tasks++ {
			call(groups, tasks)
		}
	}
}

func wantRange(t *testing.T, groups, tasks, task, from, to int) {
	t.Helper()
	if f, b, e := group.Range(groups, tasks, task); f != from || b != to || e != api.OK {
		t.Errorf("Range(%d, %d, %d) = %d, %d, %d, want %d, %d", groups, tasks, task, f, b, e, from, to)
	}
}

func wantNoRange(t *testing.T, groups, tasks, task int, want api.Errno) {
	t.Helper()
	if f, b, e := group.Range(groups, tasks, task); f != 0 || b != 0 || e != want {
		t.Errorf("Range(%d, %d, %d) = %d, %d, %d, want 0, 0, %d", groups, tasks, task, f, b, e, want)
	}
}

func wantOwner(t *testing.T, groups, tasks, g, task int) {
	t.Helper()
	if o, e := group.Owner(groups, tasks, g); o != task || e != api.OK {
		t.Errorf("Owner(%d, %d, %d) = %d, %d, want %d", groups, tasks, g, o, e, task)
	}
}

func wantNoOwner(t *testing.T, groups, tasks, g int) {
	t.Helper()
	if o, e := group.Owner(groups, tasks, g); o != 0 || e != api.ErrRange {
		t.Errorf("Owner(%d, %d, %d) = %d, %d, want 0, %d", groups, tasks, g, o, e, api.ErrRange)
	}
}

func wantMoves(t *testing.T, groups, was, will int, moves ...[3]int) {
	t.Helper()
	if l, e := group.Moves(groups, was, will); !slices.Equal(l, moves) || e != api.OK {
		t.Errorf("Moves(%d, %d, %d) = %v, %d, want %v", groups, was, will, l, e, moves)
	}
}

func wantNoMoves(t *testing.T, groups, was, will int) {
	t.Helper()
	if l, e := group.Moves(groups, was, will); len(l) != 0 || e != api.ErrRange {
		t.Errorf("Moves(%d, %d, %d) = %v, %d, want none, %d", groups, was, will, l, e, api.ErrRange)
	}
}

// 6.2: the chapter's example, one task with all, tasks with one group each, and as many of both as may be.
func TestRange(t *testing.T) {
	wantRange(t, 10, 3, 0, 0, 3)
	wantRange(t, 10, 3, 1, 3, 6)
	wantRange(t, 10, 3, 2, 6, 10)
	wantRange(t, 1, 1, 0, 0, 1)
	wantRange(t, api.MaxGroups, 1, 0, 0, api.MaxGroups)
	wantRange(t, 7, 4, 0, 0, 1)
	wantRange(t, 7, 4, 1, 1, 3)
	wantRange(t, 7, 4, 2, 3, 5)
	wantRange(t, 7, 4, 3, 5, 7)
	for task := range api.MaxTasks {
		wantRange(t, api.MaxTasks, api.MaxTasks, task, task, task+1)
		wantRange(t, api.MaxGroups, api.MaxTasks, task, 8*task, 8*task+8)
	}
}

// 6.2: the whole parts of the chapter's words, at all numbers that may be.
func TestRangeOfAll(t *testing.T) {
	eachTasks(func(groups, tasks int) {
		for task := range tasks {
			from := math.Floor(float64(task*groups) / float64(tasks))
			to := math.Floor(float64((task+1)*groups) / float64(tasks))
			wantRange(t, groups, tasks, task, int(from), int(to))
		}
	})
}

// 6.2: a group's owner is the one task whose range has it.
func TestOwner(t *testing.T) {
	for g, task := range []int{0, 0, 0, 1, 1, 1, 2, 2, 2, 2} {
		wantOwner(t, 10, 3, g, task)
	}
	eachTasks(func(groups, tasks int) {
		for task := range tasks {
			from, to, _ := group.Range(groups, tasks, task)
			for g := from; g < to; g++ {
				wantOwner(t, groups, tasks, g, task)
			}
		}
	})
}

// 6.2, 6.3: groups that may not be are refused, whatever stands behind them.
func TestWrongGroups(t *testing.T) {
	for _, groups := range wrongGroups {
		for _, tasks := range []int{math.MinInt, -1, 0, 1, 2, api.MaxTasks, api.MaxTasks + 1, math.MaxInt} {
			for _, x := range []int{math.MinInt, -1, 0, 1, api.MaxTasks, api.MaxGroups, math.MaxInt} {
				wantNoRange(t, groups, tasks, x, api.ErrRange)
				wantNoOwner(t, groups, tasks, x)
				wantNoMoves(t, groups, tasks, x)
			}
		}
	}
}

// 6.2, 6.3: so are tasks: none, more than groups, more than api.MaxTasks.
func TestWrongTasks(t *testing.T) {
	for groups := 1; groups <= api.MaxGroups; groups++ {
		for _, tasks := range wrongTasks(groups) {
			for _, x := range []int{math.MinInt, -1, 0, 1, groups, mostTasks(groups), math.MaxInt} {
				wantNoRange(t, groups, tasks, x, api.ErrRange)
				wantNoOwner(t, groups, tasks, x)
				wantNoMoves(t, groups, tasks, x)
				wantNoMoves(t, groups, x, tasks)
			}
		}
	}
}

// 6.2: tasks and groups that there are not, of numbers that may be.
func TestWrongPlaces(t *testing.T) {
	eachTasks(func(groups, tasks int) {
		for _, task := range wrongPlaces(tasks) {
			wantNoRange(t, groups, tasks, task, api.ErrTask)
		}
		for _, g := range wrongPlaces(groups) {
			wantNoOwner(t, groups, tasks, g)
		}
	})
}

// 6.3: the chapter's example, its way back, and groups that all stay.
func TestMoves(t *testing.T) {
	wantMoves(t, 4, 1, 2, [3]int{2, 0, 1}, [3]int{3, 0, 1})
	wantMoves(t, 4, 2, 1, [3]int{2, 1, 0}, [3]int{3, 1, 0})
	wantMoves(t, 10, 3, 2, [3]int{3, 1, 0}, [3]int{4, 1, 0}, [3]int{6, 2, 1}, [3]int{7, 2, 1}, [3]int{8, 2, 1}, [3]int{9, 2, 1})
	wantMoves(t, 3, 3, 2, [3]int{2, 2, 1})
	wantMoves(t, 1, 1, 1)
	eachTasks(func(groups, tasks int) { wantMoves(t, groups, tasks, tasks) })
}

// 6.3: at all numbers that may be: those groups whose owners are unlike, by groups.
func TestMovesOfAll(t *testing.T) {
	eachTasks(func(groups, was int) {
		for will := 1; will <= mostTasks(groups); will++ {
			var moves [][3]int
			for g := range groups {
				then, _ := group.Owner(groups, was, g)
				now, _ := group.Owner(groups, will, g)
				if then != now {
					moves = append(moves, [3]int{g, then, now})
				}
			}
			wantMoves(t, groups, was, will, moves...)
		}
	})
}

// 6.3, 6.4: the moves, done to the owners then, are the owners now; those back bring the owners then.
func TestMovesLeadOver(t *testing.T) {
	owners := func(groups, tasks int) []int {
		var l []int
		for task := range tasks {
			from, to, _ := group.Range(groups, tasks, task)
			l = append(l, slices.Repeat([]int{task}, to-from)...)
		}
		return l
	}
	eachTasks(func(groups, was int) {
		for will := 1; will <= mostTasks(groups); will++ {
			l := owners(groups, was)
			for _, way := range [][2]int{{was, will}, {will, was}} {
				moves, _ := group.Moves(groups, way[0], way[1])
				for _, m := range moves {
					if l[m[0]] != m[1] {
						t.Errorf("Moves(%d, %d, %d): %v, but its owner then is %d", groups, way[0], way[1], m, l[m[0]])
					}
					l[m[0]] = m[2]
				}
				if !slices.Equal(l, owners(groups, way[1])) {
					t.Errorf("Moves(%d, %d, %d) lead to %v", groups, way[0], way[1], l)
				}
			}
		}
	})
}

// 6.4: ranges have each group once; each has some, and none has two more than another.
func TestGroupsAreSharedOut(t *testing.T) {
	eachTasks(func(groups, tasks int) {
		had := make([]int, groups)
		var sizes []int
		for task := range tasks {
			from, to, _ := group.Range(groups, tasks, task)
			sizes = append(sizes, to-from)
			for g := from; g < to; g++ {
				had[g]++
			}
		}
		if slices.Min(had) != 1 || slices.Max(had) != 1 {
			t.Errorf("of %d groups %d tasks have each so often: %v", groups, tasks, had)
		}
		if slices.Min(sizes) < 1 || slices.Max(sizes)-slices.Min(sizes) > 1 {
			t.Errorf("of %d groups %d tasks have so many: %v", groups, tasks, sizes)
		}
	})
}

// 6.4: owners by groups: each task is one, and has at least one group.
func TestEachTaskOwns(t *testing.T) {
	eachTasks(func(groups, tasks int) {
		owned := make([]int, tasks)
		for g := range groups {
			task, e := group.Owner(groups, tasks, g)
			if e != api.OK || task < 0 || task >= tasks {
				t.Fatalf("Owner(%d, %d, %d) = %d, %d", groups, tasks, g, task, e)
			}
			owned[task]++
		}
		if slices.Min(owned) < 1 || slices.Max(owned)-slices.Min(owned) > 1 {
			t.Errorf("of %d groups %d tasks own %v", groups, tasks, owned)
		}
	})
}

// R4, R7: moves that are written over, their spare room too, change no other answer.
func TestMovesShareNothing(t *testing.T) {
	moves := [][3]int{{2, 0, 1}, {3, 0, 1}, {4, 0, 1}}
	first, _ := group.Moves(5, 1, 2)
	second, _ := group.Moves(5, 1, 2)
	for i := range first[:cap(first)] {
		first[:cap(first)][i] = [3]int{7, 7, 7}
	}
	if !slices.Equal(second, moves) {
		t.Error(second)
	}
	wantMoves(t, 5, 1, 2, moves...)
}
