package gate

import (
	"slices"

	"weaver/api"
	"weaver/credit"
)

// item is what it carries, or (barrier above 0) the barrier of that number.
type item[T any] struct {
	carries T
	barrier int
}

// line is a channel's items, in the order in which they came, and next, the number of its next
// barrier. In room, which holds texts alone, an empty one stands for each item: the credits are
// kept there, whatever items carry.
type line[T any] struct {
	room  *credit.Store
	items []item[T]
	next  int
}

func newLines[T any](many, capacity, next int) ([]line[T], api.Errno) {
	l := make([]line[T], many)
	for k := range l {
		room, e := credit.NewStore(capacity)
		if e != api.OK {
			return nil, e
		}
		l[k] = line[T]{room: room, next: next}
	}
	return l, api.OK
}

func (l *line[T]) push(x item[T]) api.Errno {
	if e := l.room.Put(""); e != api.OK {
		return e
	}
	l.items = append(l.items, x)
	return api.OK
}

func (l *line[T]) pushBarrier(n int) api.Errno {
	if n != l.next {
		return api.ErrRange
	}
	if e := l.push(item[T]{barrier: n}); e != api.OK {
		return e
	}
	l.next++
	return api.OK
}

func (l *line[T]) blocked() bool { return len(l.items) > 0 && l.items[0].barrier > 0 }

func (l *line[T]) open() bool { return len(l.items) > 0 && l.items[0].barrier == 0 }

// shift takes the first item out, and its credit is one that was not given. Who calls it has asked
// whether there is one.
func (l *line[T]) shift() item[T] {
	l.room.Take()
	x := l.items[0]
	l.items = slices.Delete(l.items, 0, 1)
	return x
}

func aligned[T any](lines []line[T]) bool {
	for k := range lines {
		if !lines[k].blocked() {
			return false
		}
	}
	return true
}

// shiftAll takes the barriers out that aligned lines begin with, and tells their number: it is one,
// since each line has barriers of the same numbers, and lost as many as the others.
func shiftAll[T any](lines []line[T]) int {
	barrier := 0
	for k := range lines {
		barrier = lines[k].shift().barrier
	}
	return barrier
}

// firstOpen is the first line, from one on and around, that does not begin with a barrier and is
// not empty.
func firstOpen[T any](lines []line[T], from int) (int, bool) {
	for k := range lines {
		at := (from + k) % len(lines)
		if lines[at].open() {
			return at, true
		}
	}
	return 0, false
}
