package buffer_test

import (
	"slices"
	"testing"

	"weaver/api"
	"weaver/buffer"
)

// 16.2: numbers that no entry has, beside some that entries have.
func TestNoEntry(t *testing.T) {
	b := row(t, 4)
	wantDrop(t, b, 2, 1)
	for _, id := range append([]int{2, 4, api.MaxItems - 1}, noIDs...) {
		wantNone(t, b, id)
	}
	wantLen(t, b, 3)
	for _, id := range []int{0, 1, 3} {
		wantCount(t, b, id, 1)
		wantWay(t, b, id, [2]int{0, id})
	}
}

// 16.2: as often as it is held an entry is to be dropped; only the last drop takes it away.
func TestHoldDrop(t *testing.T) {
	b := row(t, 2)
	for i := range 1000 {
		wantHold(t, b, 1, api.OK)
		wantCount(t, b, 1, i+2)
	}
	wantCount(t, b, 0, 1)
	for i := range 1000 {
		wantDrop(t, b, 1, 0)
		wantCount(t, b, 1, 1000-i)
	}
	wantDrop(t, b, 1, 1)
	wantNone(t, b, 1)
	wantLen(t, b, 1)
}

// 16.2: children hold their parent, but no caller can drop it for them.
func TestDropNotHeld(t *testing.T) {
	b := chain(t, 3)
	for range 3 {
		wantNoDrop(t, b, 0, api.ErrRange)
		wantNoDrop(t, b, 1, api.ErrRange)
	}
	for id := range 3 {
		wantCount(t, b, id, 1)
	}
	wantHold(t, b, 0, api.OK)
	wantCount(t, b, 0, 2)
	wantDrop(t, b, 0, 0)
	wantNoDrop(t, b, 0, api.ErrRange)
	wantLen(t, b, 3)
	wantDrop(t, b, 2, 3)
	wantNothing(t, b)
}

// 16.2: what goes with an entry is its way up to the first one that something else holds: a caller,
// or another child.
func TestDropUpTo(t *testing.T) {
	b := chain(t, 6)
	wantHold(t, b, 2, api.OK)
	wantDrop(t, b, 5, 3)
	wantCount(t, b, 2, 1)
	wantLen(t, b, 3)
	wantPut(t, b, 1, 7, 1, 3)
	wantDrop(t, b, 2, 1)
	wantCount(t, b, 1, 1)
	wantWay(t, b, 3, [2]int{0, 0}, [2]int{0, 1}, [2]int{1, 7})
	wantDrop(t, b, 3, 3)
	wantNothing(t, b)
}

// 16.2: two children go one behind the other, and the parent with the second.
func TestDropTwins(t *testing.T) {
	for _, first := range []int{1, 2} {
		b := buffer.New()
		wantPut(t, b, 0, 0, -1, 0)
		wantPut(t, b, 0, 1, 0, 1)
		wantPut(t, b, 1, 1, 0, 2)
		wantCount(t, b, 0, 3)
		wantDrop(t, b, 0, 0)
		wantDrop(t, b, first, 1)
		wantCount(t, b, 0, 1)
		wantDrop(t, b, 3-first, 2)
		wantNothing(t, b)
	}
}

// 16.2, P1: the longest way there can be is told whole, and goes at once.
func TestLongestWay(t *testing.T) {
	b := chain(t, api.MaxItems)
	way, e := b.Way(api.MaxItems - 1)
	if len(way) != api.MaxItems || e != api.OK {
		t.Fatal(len(way), e)
	}
	for i, x := range way {
		if x != [2]int{0, i} {
			t.Fatal(i, x)
		}
	}
	wantNoPut(t, b, 0, api.MaxSeq, api.MaxItems-1, api.ErrLong)
	wantDrop(t, b, api.MaxItems-1, api.MaxItems)
	wantNothing(t, b)
	wantPut(t, b, 0, 0, -1, 0)
}

// 16.2: a way goes by parents, not by numbers: a parent's number may be above its child's.
func TestWayDownTheNumbers(t *testing.T) {
	b := row(t, 4)
	wantDrop(t, b, 1, 1)
	wantPut(t, b, 1, 8, 3, 1)
	wantDrop(t, b, 0, 1)
	wantPut(t, b, 7, 9, 1, 0)
	wantWay(t, b, 0, [2]int{0, 3}, [2]int{1, 8}, [2]int{7, 9})
	wantDrop(t, b, 1, 0)
	wantDrop(t, b, 3, 0)
	wantDrop(t, b, 0, 3)
	wantWay(t, b, 2, [2]int{0, 2})
	wantLen(t, b, 1)
}

// R4: ways that are written over, spare room too, change neither the buffer nor each other.
func TestWayIsNew(t *testing.T) {
	b := chain(t, 5)
	first, _ := b.Way(4)
	second, _ := b.Way(4)
	before := slices.Clone(second)
	for i := range first[:cap(first)] {
		first[:cap(first)][i] = [2]int{9, 9}
	}
	if !slices.Equal(second, before) {
		t.Error(second, before)
	}
	wantWay(t, b, 4, before...)
	wantWay(t, b, 2, before[:3]...)
}

// R7: each buffer has entries of its own.
func TestApart(t *testing.T) {
	x, y := row(t, 3), buffer.New()
	wantNothing(t, y)
	wantPut(t, y, 5, 5, -1, 0)
	wantDrop(t, x, 0, 1)
	wantWay(t, y, 0, [2]int{5, 5})
	wantLen(t, x, 2)
	wantLen(t, y, 1)
	wantNothing(t, buffer.New())
}
