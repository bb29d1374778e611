package buffer_test

import (
	"math/rand/v2"
	"slices"
	"testing"

	"weaver/api"
	"weaver/buffer"
)

// 16.1, 16.2: the chapter's example.
func TestExample(t *testing.T) {
	b := buffer.New()
	wantPut(t, b, 0, 5, -1, 0)
	wantPut(t, b, 1, 7, 0, 1)
	wantPut(t, b, 1, 7, 0, 1)
	wantCount(t, b, 1, 2)
	wantPut(t, b, 1, 8, 0, 2)
	wantCount(t, b, 0, 3)
	wantDrop(t, b, 1, 0)
	wantDrop(t, b, 1, 1)
	wantWay(t, b, 2, [2]int{0, 5}, [2]int{1, 8})
	wantLen(t, b, 2)
	wantCount(t, b, 0, 2)
	wantNone(t, b, 1)
}

// 16.1: a new buffer has no entries, and no number is one's.
func TestNew(t *testing.T) {
	b := buffer.New()
	wantNothing(t, b)
	for _, id := range noIDs {
		wantNone(t, b, id)
	}
	wantLen(t, b, 0)
}

// 16.1: stages and places at their ends, with a parent and without one.
func TestPutEdges(t *testing.T) {
	b := buffer.New()
	wantPut(t, b, 0, 0, -1, 0)
	wantPut(t, b, api.MaxStages-1, api.MaxSeq, -1, 1)
	wantPut(t, b, api.MaxStages-1, api.MaxSeq, 0, 2)
	wantPut(t, b, 0, api.MaxSeq, 0, 3)
	wantPut(t, b, 0, 1, 0, 4)
	wantPut(t, b, api.MaxStages-1, 0, -1, 5)
	wantPut(t, b, api.MaxStages-1, 1, 5, 6)
	wantWay(t, b, 2, [2]int{0, 0}, [2]int{api.MaxStages - 1, api.MaxSeq})
	wantWay(t, b, 6, [2]int{api.MaxStages - 1, 0}, [2]int{api.MaxStages - 1, 1})
	for _, stage := range []int{-1, api.MaxStages, least, most} {
		wantNoPut(t, b, stage, 5, -1, api.ErrRange)
		wantNoPut(t, b, stage, 5, 0, api.ErrRange)
	}
	for _, place := range []int{-1, api.MaxSeq + 1, least, most} {
		wantNoPut(t, b, 3, place, -1, api.ErrRange)
		wantNoPut(t, b, 3, place, 0, api.ErrRange)
	}
	for _, id := range noIDs[1:] {
		wantNoPut(t, b, 3, 5, id, api.ErrRef)
	}
	wantNoPut(t, b, 3, 5, 7, api.ErrRef)
	wantLen(t, b, 7)
}

// 16.1: below its parent an entry's stage may not be, nor its place at it or below; the parent's
// parent does not count.
func TestPutBehindParent(t *testing.T) {
	b := buffer.New()
	wantPut(t, b, 2, 5, -1, 0)
	wantPut(t, b, 4, 9, 0, 1)
	for stage := range api.MaxStages {
		for place := range 14 {
			for parent, first := range [][2]int{{2, 5}, {4, 9}} {
				if stage < first[0] || place <= first[1] {
					wantNoPut(t, b, stage, place, parent, api.ErrRange)
				} else if id, e := b.Put(stage, place, parent); e != api.OK {
					t.Fatal(stage, place, parent, id, e)
				} else if id > 1 {
					wantDrop(t, b, id, 1)
				} else {
					wantDrop(t, b, id, 0)
				}
			}
		}
	}
	wantLen(t, b, 2)
}

// 16.1, R1: the numbers' ranges come ahead of a parent that there is not, that ahead of a parent
// that does not go with them.
func TestPutOrder(t *testing.T) {
	b := buffer.New()
	wantPut(t, b, 2, 5, -1, 0)
	wantNoPut(t, b, 8, -1, 3, api.ErrRange)
	wantNoPut(t, b, 8, 5, 3, api.ErrRange)
	wantNoPut(t, b, 2, -1, 3, api.ErrRange)
	wantNoPut(t, b, 2, api.MaxSeq+1, -2, api.ErrRange)
	wantNoPut(t, b, 1, 4, 1, api.ErrRef)
	wantNoPut(t, b, 1, 4, 0, api.ErrRange)
}

// 16.1: each of the three tells entries apart; all three alike are one entry, held once more, and
// its parent has not one child more.
func TestPutSame(t *testing.T) {
	b := buffer.New()
	wantPut(t, b, 1, 5, -1, 0)
	wantPut(t, b, 2, 5, -1, 1)
	wantPut(t, b, 1, 6, -1, 2)
	wantPut(t, b, 2, 7, -1, 3)
	wantPut(t, b, 2, 7, 0, 4)
	wantPut(t, b, 2, 7, 1, 5)
	for i, x := range [][3]int{{1, 5, -1}, {2, 5, -1}, {1, 6, -1}, {2, 7, -1}, {2, 7, 0}, {2, 7, 1}} {
		wantPut(t, b, x[0], x[1], x[2], i)
		wantPut(t, b, x[0], x[1], x[2], i)
	}
	for i, want := range []int{4, 4, 3, 3, 3, 3} {
		wantCount(t, b, i, want)
	}
	wantLen(t, b, 6)
}

// 16.1: an entry that only its children hold is held by callers again when it is put again.
func TestPutSameOfParent(t *testing.T) {
	b := chain(t, 3)
	wantNoDrop(t, b, 1, api.ErrRange)
	wantPut(t, b, 0, 1, 0, 1)
	wantCount(t, b, 1, 2)
	wantDrop(t, b, 2, 1)
	wantWay(t, b, 1, [2]int{0, 0}, [2]int{0, 1})
	wantDrop(t, b, 1, 2)
	wantNothing(t, b)
}

// 16.1: what is gone is no entry that could be put again: it is a new one, held once.
func TestPutAgain(t *testing.T) {
	b := row(t, 3)
	wantHold(t, b, 1, api.OK)
	wantDrop(t, b, 1, 0)
	wantDrop(t, b, 1, 1)
	wantPut(t, b, 0, 1, -1, 1)
	wantCount(t, b, 1, 1)
	wantDrop(t, b, 0, 1)
	wantPut(t, b, 0, 1, -1, 1)
	wantPut(t, b, 0, 0, -1, 0)
	wantCount(t, b, 0, 1)
	wantCount(t, b, 1, 2)
}

// 16.1: a gone entry's number is free for another one, and is a parent again as that one.
func TestPutParentAgain(t *testing.T) {
	b := chain(t, 2)
	wantDrop(t, b, 1, 2)
	wantNoPut(t, b, 0, 1, 0, api.ErrRef)
	wantPut(t, b, 3, 8, -1, 0)
	wantNoPut(t, b, 0, 1, 0, api.ErrRange)
	wantPut(t, b, 3, 9, 0, 1)
	wantWay(t, b, 1, [2]int{3, 8}, [2]int{3, 9})
}

// 16.1: the number is the least that no entry has.
func TestPutLeast(t *testing.T) {
	b := row(t, 10)
	for _, id := range []int{7, 2, 5, 9} {
		wantDrop(t, b, id, 1)
	}
	for i, want := range []int{2, 5, 7, 9, 10, 11} {
		wantPut(t, b, 1, i, -1, want)
	}
	for id := range 10 {
		wantDrop(t, b, id, 1)
	}
	wantPut(t, b, 1, 5, -1, 11)
	wantPut(t, b, 2, 5, -1, 0)
	wantPut(t, b, 2, 6, 11, 1)
	wantPut(t, b, 2, 6, 0, 2)
}

// 16.1: a full buffer takes none more; one that is there is held once more even then, and refused
// is first what may not be. When one is gone its number is the next.
func TestPutFull(t *testing.T) {
	b := row(t, api.MaxItems)
	wantLen(t, b, api.MaxItems)
	wantNoPut(t, b, 1, 0, -1, api.ErrLong)
	wantNoPut(t, b, 1, api.MaxSeq, api.MaxItems-1, api.ErrLong)
	wantCount(t, b, api.MaxItems-1, 1)
	wantNoPut(t, b, 8, 0, -1, api.ErrRange)
	wantNoPut(t, b, 1, 0, 0, api.ErrRange)
	for _, id := range noIDs[1:] {
		wantNoPut(t, b, 1, 1, id, api.ErrRef)
	}
	for _, id := range []int{0, 1, 2000, api.MaxItems - 1} {
		wantPut(t, b, 0, id, -1, id)
		wantCount(t, b, id, 2)
		wantDrop(t, b, id, 0)
		wantDrop(t, b, id, 1)
		wantLen(t, b, api.MaxItems-1)
		wantPut(t, b, 1, api.MaxSeq-id, 3000, id)
		wantNoPut(t, b, 1, 0, -1, api.ErrLong)
		wantLen(t, b, api.MaxItems)
	}
}

// 16.1: in a buffer that was full, too, free numbers are given from the least on, whatever the order
// in which they became free; then it is full again.
func TestPutLeastOfFull(t *testing.T) {
	for seed := range uint64(5) {
		r := rand.New(rand.NewPCG(161, seed))
		b := row(t, api.MaxItems)
		free := r.Perm(api.MaxItems)[:1+r.IntN(api.MaxItems)]
		for _, id := range free {
			wantDrop(t, b, id, 1)
		}
		slices.Sort(free)
		for i, id := range free {
			wantPut(t, b, 1, i, -1, id)
		}
		wantLen(t, b, api.MaxItems)
		wantNoPut(t, b, 2, 0, -1, api.ErrLong)
		for i, id := range free {
			wantWay(t, b, id, [2]int{1, i})
			wantPut(t, b, 1, i, -1, id)
		}
	}
}
