package link_test

import (
	"strconv"
	"testing"

	"weaver/api"
	"weaver/link"
)

// The chapter's example.
func TestExample(t *testing.T) {
	s, r := sender(t, 0, 2, 1), receiver(t, 0, 2)
	pushAll(t, s, "a", "b")
	wantDue(t, s, 0, dataOf(0, 0, "a"), dataOf(0, 1, "b"))
	wantTake(t, r, dataOf(0, 1, "b"), ackOf(0, 0))
	wantTake(t, r, dataOf(0, 0, "a"), ackOf(0, 2), "a", "b")
	wantHeard(t, s, ackOf(0, 2), api.OK)
	wantLeft(t, s, 0)
}

// The packets' bytes, written out.
func TestPackets(t *testing.T) {
	s, r := sender(t, 64, 256, 1), receiver(t, 64, 256)
	pushAll(t, s, "ab", "")
	wantDue(t, s, 0, "\x01\x00\x01\x81\x00\x01\x00\x02\x04ab", "\x01\x00\x01\x81\x00\x01\x02\x02\x00")
	wantTake(t, r, "\x01\x00\x01\x81\x00\x01\x00\x02\x04ab", "\x01\x02\x01\x81\x00\x01\x02", "ab")
	wantHeard(t, s, "\x01\x02\x01\x81\x00\x01\x02", api.OK)
	wantLeft(t, s, 1)
}

// 19.1: each epoch, window and patience at the edges may be; a new link has nothing.
func TestNew(t *testing.T) {
	for _, epoch := range []int{0, 1, 2, 63, 64, api.MaxEpoch - 1, api.MaxEpoch} {
		for _, window := range []int{1, 2, 255, 256} {
			r := receiver(t, epoch, window)
			wantNext(t, r, 0)
			for _, patience := range []int{1, 2, 255, 256} {
				s := sender(t, epoch, window, patience)
				wantLeft(t, s, 0)
				wantDue(t, s, 0)
				wantHeard(t, s, ackOf(epoch, 0), api.OK)
				wantHeard(t, s, ackOf(epoch, 1), api.ErrRange)
				pushAll(t, s, "x")
				wantDue(t, s, 0, dataOf(epoch, 0, "x"))
			}
			wantTake(t, r, dataOf(epoch, 0, "x"), ackOf(epoch, 1), "x")
		}
	}
}

// 19.1, R5: beside the error there is no sender, whichever is wrong.
func TestWrongNewSender(t *testing.T) {
	for _, w := range wrongs {
		wantNoSender(t, w, 1, 1)
		wantNoSender(t, w, w, w)
	}
	for _, w := range append([]int{0, maxStretch + 1, maxStretch + 2, api.MaxEpoch}, wrongs...) {
		for _, epoch := range []int{0, 1, api.MaxEpoch} {
			wantNoSender(t, epoch, w, 1)
			wantNoSender(t, epoch, w, maxStretch)
			wantNoSender(t, epoch, 1, w)
			wantNoSender(t, epoch, maxStretch, w)
		}
	}
}

func wantNoSender(t *testing.T, epoch, window, patience int) {
	t.Helper()
	if s, e := link.NewSender(epoch, window, patience); s != nil || e != api.ErrRange {
		t.Errorf("NewSender(%d, %d, %d) = a sender: %v, %d, want the error %d", epoch, window, patience, s != nil, e, api.ErrRange)
	}
}

// 19.1, R5: nor is there a receiver.
func TestWrongNewReceiver(t *testing.T) {
	wantNone := func(epoch, window int) {
		t.Helper()
		if r, e := link.NewReceiver(epoch, window); r != nil || e != api.ErrRange {
			t.Errorf("NewReceiver(%d, %d) = a receiver: %v, %d, want the error %d", epoch, window, r != nil, e, api.ErrRange)
		}
	}
	for _, w := range wrongs {
		wantNone(w, 1)
		wantNone(w, maxStretch)
		wantNone(w, w)
	}
	for _, w := range append([]int{0, maxStretch + 1, maxStretch + 2, api.MaxEpoch}, wrongs...) {
		wantNone(0, w)
		wantNone(api.MaxEpoch, w)
	}
}

// 19.1: texts are numbered on from 0, whatever they are and whatever was acknowledged.
func TestPush(t *testing.T) {
	s := sender(t, 7, 4, 1)
	pushAll(t, s, "a", "", "a", "\x00\xff")
	wantLeft(t, s, 4)
	wantDue(t, s, 0, dataOf(7, 0, "a"), dataOf(7, 1, ""), dataOf(7, 2, "a"), dataOf(7, 3, "\x00\xff"))
	wantHeard(t, s, ackOf(7, 3), api.OK)
	wantLeft(t, s, 1)
	pushAll(t, s, "b")
	wantLeft(t, s, 2)
	wantDue(t, s, 1, dataOf(7, 3, "\x00\xff"), dataOf(7, 4, "b"))
	wantHeard(t, s, ackOf(7, 5), api.OK)
	wantLeft(t, s, 0)
	wantDue(t, s, 2)
	pushAll(t, s, "c")
	wantDue(t, s, 2, dataOf(7, 5, "c"))
}

// 19.2: the first W texts are due, no more, for each W; those that come up behind an acknowledgement
// are due at once, those that were sent are not.
func TestDueWindow(t *testing.T) {
	for window := 1; window <= maxStretch; window++ {
		s := sender(t, 1, window, 256)
		var all []string
		for n := range window + 2 {
			text := strconv.Itoa(n)
			pushAll(t, s, text)
			all = append(all, dataOf(1, n, text))
		}
		wantDue(t, s, 0, all[:window]...)
		wantDue(t, s, 0)
		wantHeard(t, s, ackOf(1, 1), api.OK)
		wantDue(t, s, 0, all[window])
		wantDue(t, s, 255)
		wantDue(t, s, 256, all[1:window+1]...)
		wantHeard(t, s, ackOf(1, window+1), api.OK)
		wantDue(t, s, 256, all[window+1])
	}
}

// 19.2: what was sent is due again T ticks later, not earlier, for each T, and again T ticks later.
func TestDuePatience(t *testing.T) {
	for patience := 1; patience <= maxStretch; patience++ {
		s := sender(t, 0, 2, patience)
		pushAll(t, s, "a")
		a := dataOf(0, 0, "a")
		wantDue(t, s, 0, a)
		wantDue(t, s, 0)
		wantDue(t, s, patience-1)
		wantDue(t, s, patience, a)
		wantDue(t, s, patience)
		wantDue(t, s, 2*patience-1)
		wantDue(t, s, 2*patience+1, a)
		wantDue(t, s, 3*patience)
		wantDue(t, s, 3*patience+1, a)
		wantDue(t, s, api.MaxTicks-1, a)
	}
}

// 19.2: each text has its own tick.
func TestDueEachByItself(t *testing.T) {
	s := sender(t, 0, 3, 5)
	a, b, c, d := dataOf(0, 0, "a"), dataOf(0, 1, "b"), dataOf(0, 2, "c"), dataOf(0, 3, "d")
	pushAll(t, s, "a")
	wantDue(t, s, 10, a)
	pushAll(t, s, "b")
	wantDue(t, s, 12, b)
	pushAll(t, s, "c", "d")
	wantDue(t, s, 14, c)
	wantDue(t, s, 15, a)
	wantDue(t, s, 17, b)
	wantDue(t, s, 20, a, c)
	wantHeard(t, s, ackOf(0, 1), api.OK)
	wantDue(t, s, 21, d)
	wantDue(t, s, 25, b, c)
	wantDue(t, s, 26, d)
}

// 19.3: all texts below the number are acknowledged, also such as were not sent; none more by one
// that is told again or late.
func TestHeard(t *testing.T) {
	s := sender(t, 3, 2, 1)
	pushAll(t, s, "a", "b", "c", "d", "e")
	for _, x := range []struct{ number, left int }{{0, 5}, {2, 3}, {2, 3}, {1, 3}, {0, 3}, {3, 2}, {5, 0}, {5, 0}, {0, 0}, {4, 0}} {
		wantHeard(t, s, ackOf(3, x.number), api.OK)
		wantLeft(t, s, x.left)
	}
	wantHeard(t, s, ackOf(3, 6), api.ErrRange)
	pushAll(t, s, "f")
	wantDue(t, s, 0, dataOf(3, 5, "f"))
	wantHeard(t, s, ackOf(3, 6), api.OK)
	wantLeft(t, s, 0)
}

// 19.4: texts in order are told one by one.
func TestTakeInOrder(t *testing.T) {
	r := receiver(t, 5, 1)
	for n := range 1000 {
		wantNext(t, r, n)
		wantTake(t, r, dataOf(5, n, strconv.Itoa(n)), ackOf(5, n+1), strconv.Itoa(n))
		wantTake(t, r, dataOf(5, n, strconv.Itoa(n)), ackOf(5, n+1))
	}
}

// 19.4: for each W all that the window lets in come from behind, and are told with the first one.
func TestTakeFromBehind(t *testing.T) {
	for window := 1; window <= maxStretch; window++ {
		r := receiver(t, 5, window)
		var want []string
		for n := window - 1; n > 0; n-- {
			wantTake(t, r, dataOf(5, n, strconv.Itoa(n)), ackOf(5, 0))
		}
		for n := range window {
			want = append(want, strconv.Itoa(n))
		}
		wantNext(t, r, 0)
		wantTake(t, r, dataOf(5, 0, "0"), ackOf(5, window), want...)
		wantNext(t, r, window)
	}
}

// 19.4: a text whose number is at the window's end is kept, one behind it is not, for each W; what
// counts is what was expected when it came.
func TestTakeWindow(t *testing.T) {
	for window := 2; window <= maxStretch; window++ {
		r := receiver(t, 1, window)
		wantTake(t, r, dataOf(1, window, "far"), ackOf(1, 0))
		wantTake(t, r, dataOf(1, window-1, "near"), ackOf(1, 0))
		for n := range window - 2 {
			wantTake(t, r, dataOf(1, n, "x"), ackOf(1, n+1), "x")
		}
		wantTake(t, r, dataOf(1, window-2, "y"), ackOf(1, window), "y", "near")
		wantTake(t, r, dataOf(1, window+1, "z"), ackOf(1, window))
		wantTake(t, r, dataOf(1, window, "again"), ackOf(1, window+2), "again", "z")
	}
}

// 19.4: numbers that are behind, or far ahead, tell nothing but the acknowledgement.
func TestTakeOutside(t *testing.T) {
	r := receiver(t, 2, 4)
	for n := range 3 {
		wantTake(t, r, dataOf(2, n, "x"), ackOf(2, n+1), "x")
	}
	for _, n := range []int{0, 1, 2, 7, 8, 9, 300, api.MaxSeq - 1, api.MaxSeq} {
		wantTake(t, r, dataOf(2, n, "y"), ackOf(2, 3))
	}
	for n := 3; n < 10; n++ {
		wantTake(t, r, dataOf(2, n, "z"), ackOf(2, n+1), "z")
	}
}

// 19.4: of one number the first text is kept, an empty one too; what has gaps is told up to the gap.
func TestTakeFirstOfANumber(t *testing.T) {
	r := receiver(t, 0, 8)
	wantTake(t, r, dataOf(0, 2, "first"), ackOf(0, 0))
	wantTake(t, r, dataOf(0, 2, "second"), ackOf(0, 0))
	wantTake(t, r, dataOf(0, 1, ""), ackOf(0, 0))
	wantTake(t, r, dataOf(0, 1, "late"), ackOf(0, 0))
	wantTake(t, r, dataOf(0, 5, "five"), ackOf(0, 0))
	wantTake(t, r, dataOf(0, 4, "four"), ackOf(0, 0))
	wantTake(t, r, dataOf(0, 0, "zero"), ackOf(0, 3), "zero", "", "first")
	wantTake(t, r, dataOf(0, 2, "third"), ackOf(0, 3))
	wantTake(t, r, dataOf(0, 3, "three"), ackOf(0, 6), "three", "four", "five")
	wantTake(t, r, dataOf(0, 6, "six"), ackOf(0, 7), "six")
}

// R7: links know nothing of one another, and the same calls tell the same.
func TestLinksAreApart(t *testing.T) {
	s, other := sender(t, 0, 4, 4), sender(t, 0, 4, 4)
	r, another := receiver(t, 0, 4), receiver(t, 0, 4)
	pushAll(t, s, "a", "b")
	wantLeft(t, other, 0)
	wantDue(t, s, 9, dataOf(0, 0, "a"), dataOf(0, 1, "b"))
	pushAll(t, other, "c")
	wantDue(t, other, 3, dataOf(0, 0, "c"))
	wantTake(t, r, dataOf(0, 1, "b"), ackOf(0, 0))
	wantTake(t, another, dataOf(0, 0, "c"), ackOf(0, 1), "c")
	wantTake(t, r, dataOf(0, 0, "a"), ackOf(0, 2), "a", "b")
	wantHeard(t, s, ackOf(0, 2), api.OK)
	wantLeft(t, other, 1)
	wantNext(t, another, 1)
}
