package snap

import (
	"strconv"

	"weaver/api"
)

const (
	letter = "s"
	point  = '.'
)

// maxTask is the last task of as many as a snapshot may have.
const (
	maxTasks = 33
	maxTask  = maxTasks - 1
)

func isSnapshot(c int) bool {
	return 1 <= c && c <= api.MaxSeq
}

func isTask(task int) bool {
	return 0 <= task && task <= maxTask
}

func isCount(tasks int) bool {
	return 1 <= tasks && tasks <= maxTasks
}

func fileName(c, task int) string {
	return letter + string(point) + strconv.Itoa(c) + string(point) + strconv.Itoa(task)
}

// snapshotOf tells of which snapshot a name's file is, if it is a task's.
func snapshotOf(name string) (c int, ok bool) {
	first, rest := untilPoint(name)
	number, last := untilPoint(rest)
	c, isC := numberOf(number)
	task, isT := numberOf(last)
	if first != letter || !isC || !isT || !isSnapshot(c) || !isTask(task) {
		return 0, false
	}
	return c, true
}

// untilPoint answers nothing behind a point that is not there: no number is written so.
func untilPoint(s string) (ahead, behind string) {
	for i, r := range s {
		if r == point {
			return s[:i], s[i+1:]
		}
	}
	return s, ""
}

// numberOf reads numbers as a file's name has them, which are none above api.MaxSeq.
func numberOf(s string) (n int, ok bool) {
	for i, r := range s {
		if r < '0' || r > '9' || i > 0 && n == 0 {
			return 0, false
		}
		n = n*10 + int(r-'0')
		if n > api.MaxSeq {
			return 0, false
		}
	}
	return n, s != ""
}
