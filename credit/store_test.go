package credit_test

import (
	"strconv"
	"strings"
	"testing"

	"weaver/api"
	"weaver/credit"
)

// 20.1: the chapter's example.
func TestExample(t *testing.T) {
	s := store(t, 2)
	wantGive(t, s, 5, 2, api.OK)
	wantPut(t, s, "a", api.OK)
	wantPut(t, s, "b", api.OK)
	wantPut(t, s, "c", api.ErrCredit)
	wantTake(t, s, "a", api.OK)
	wantGive(t, s, 5, 1, api.OK)
	wantPut(t, s, "c", api.OK)
	wantAll(t, s, "b", "c")
}

// 20.1: capacities from 1 to api.MaxCredit are right, all others are not.
func TestCapacities(t *testing.T) {
	for capacity := 1; capacity <= api.MaxCredit; capacity++ {
		s := store(t, capacity)
		wantStore(t, s, 0, 0)
		wantTake(t, s, "", api.ErrNone)
		wantPut(t, s, "a", api.ErrCredit)
		wantGive(t, s, api.MaxCredit+1, capacity, api.OK)
	}
	for _, l := range [][]int{belows, {0}, aboves} {
		for _, capacity := range l {
			if s, e := credit.NewStore(capacity); s != nil || e != api.ErrRange {
				t.Errorf("NewStore(%d) = no store: %v, %d", capacity, s == nil, e)
			}
		}
	}
}

// 20.1: at most as many are given as are asked for, and as many as there are.
func TestGive(t *testing.T) {
	s := store(t, 10)
	for _, x := range [][3]int{{0, 0, 0}, {3, 3, 3}, {0, 0, 3}, {1, 1, 4}, {5, 5, 9}, {2, 1, 10}, {1, 0, 10}, {0, 0, 10}} {
		wantGive(t, s, x[0], x[1], api.OK)
		wantStore(t, s, 0, x[2])
	}
}

// 20.1: more than there are may be asked for, however many more.
func TestGiveMore(t *testing.T) {
	for _, most := range aboves {
		s := store(t, api.MaxCredit)
		wantGive(t, s, 200, 200, api.OK)
		wantGive(t, s, most, api.MaxCredit-200, api.OK)
		wantGive(t, s, most, 0, api.OK)
		wantStore(t, s, 0, api.MaxCredit)
	}
}

// 20.1, R5: below 0 is refused, whether credits are left or not, and changes nothing.
func TestGiveBelow(t *testing.T) {
	s := store(t, 3)
	for _, most := range belows {
		wantGive(t, s, most, 0, api.ErrRange)
	}
	wantGive(t, s, 3, 3, api.OK)
	wantPut(t, s, "a", api.OK)
	for _, most := range belows {
		wantGive(t, s, most, 0, api.ErrRange)
	}
	wantStore(t, s, 1, 2)
	wantAll(t, s, "a")
	wantGive(t, s, 9, 1, api.OK)
}

// 20.1, R5: a text for which no credit was given is not there, nor does it take one given later.
func TestPutWithoutCredit(t *testing.T) {
	s := store(t, 3)
	wantPut(t, s, "a", api.ErrCredit)
	wantGive(t, s, 0, 0, api.OK)
	wantPut(t, s, "b", api.ErrCredit)
	wantStore(t, s, 0, 0)
	wantGive(t, s, 1, 1, api.OK)
	wantPut(t, s, "c", api.OK)
	wantPut(t, s, "d", api.ErrCredit)
	wantStore(t, s, 1, 0)
	wantGive(t, s, 9, 2, api.OK)
	wantPut(t, s, "e", api.OK)
	wantAll(t, s, "c", "e")
}

// 20.1: a text that was taken leaves a credit that must be given anew before another text comes.
func TestTakeGivesNothing(t *testing.T) {
	s := store(t, 1)
	wantGive(t, s, 1, 1, api.OK)
	wantPut(t, s, "a", api.OK)
	wantGive(t, s, 1, 0, api.OK)
	wantPut(t, s, "b", api.ErrCredit)
	wantTake(t, s, "a", api.OK)
	wantStore(t, s, 0, 0)
	wantPut(t, s, "b", api.ErrCredit)
	wantGive(t, s, 2, 1, api.OK)
	wantPut(t, s, "b", api.OK)
	wantAll(t, s, "b")
}

// 20.1: a store without texts tells none, and has no credit more for it.
func TestTakeNone(t *testing.T) {
	s := store(t, 2)
	wantGive(t, s, 1, 1, api.OK)
	for range 5 {
		wantTake(t, s, "", api.ErrNone)
		wantPeek(t, s, "", api.ErrNone)
	}
	wantStore(t, s, 0, 1)
	wantGive(t, s, 9, 1, api.OK)
	wantGive(t, s, 9, 0, api.OK)
}

// 20.1: the first text stays when it is told, and others come behind it.
func TestPeek(t *testing.T) {
	s := store(t, 2)
	wantGive(t, s, 2, 2, api.OK)
	wantPut(t, s, "a", api.OK)
	wantPeek(t, s, "a", api.OK)
	wantPut(t, s, "b", api.OK)
	wantPeek(t, s, "a", api.OK)
	wantGive(t, s, 2, 0, api.OK)
	wantAll(t, s, "a", "b")
}

// 20.1: an empty text is one, and so is any other, however long.
func TestTexts(t *testing.T) {
	texts := []string{"", "a", "\x00", "", "\xff\xfe", "ä€𝄞", strings.Repeat("l", api.MaxBytes+1), strings.Repeat("\n", 10*api.MaxBytes), ""}
	s := store(t, len(texts))
	wantGive(t, s, len(texts), len(texts), api.OK)
	for _, text := range texts {
		wantPut(t, s, text, api.OK)
	}
	wantAll(t, s, texts...)
}

// 20.1: full stores of each capacity, emptied and filled again, so that each row is once the first.
func TestRounds(t *testing.T) {
	for capacity := 1; capacity <= api.MaxCredit; capacity++ {
		s, put, taken := store(t, capacity), 0, 0
		for range 5 {
			wantGive(t, s, capacity, capacity-(put-taken), api.OK)
			for put-taken < capacity {
				wantPut(t, s, strconv.Itoa(put), api.OK)
				put++
			}
			wantPut(t, s, "more", api.ErrCredit)
			wantStore(t, s, capacity, 0)
			for range capacity/2 + 1 {
				wantTake(t, s, strconv.Itoa(taken), api.OK)
				taken++
			}
		}
	}
}

// 20.1: what one store has is nothing to another.
func TestStoresApart(t *testing.T) {
	a, b := store(t, 2), store(t, 2)
	wantGive(t, a, 2, 2, api.OK)
	wantPut(t, a, "a", api.OK)
	wantStore(t, b, 0, 0)
	wantPut(t, b, "b", api.ErrCredit)
	wantGive(t, b, 2, 2, api.OK)
	wantPut(t, b, "b", api.OK)
	wantAll(t, a, "a")
	wantAll(t, b, "b")
}
