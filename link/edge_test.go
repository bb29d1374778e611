package link_test

import (
	"math/rand"
	"strconv"
	"strings"
	"testing"

	"weaver/api"
)

// 19.1: a text has at most 60000 bytes; one that is refused has no number.
func TestLongText(t *testing.T) {
	s := sender(t, 0, 256, 1)
	long := strings.Repeat("\x00y", longest/2)
	wantPush(t, s, long, api.OK)
	for _, more := range []int{1, 2, 100, longest, api.MaxBytes, 1 << 22} {
		wantPush(t, s, long+strings.Repeat("z", more), api.ErrLong)
	}
	wantPush(t, s, long[1:], api.OK)
	wantLeft(t, s, 2)
	wantDue(t, s, 0, dataOf(0, 0, long), dataOf(0, 1, long[1:]))
}

// 19.4: a longer one is no data packet's, even of another epoch.
func TestTakeLongText(t *testing.T) {
	r := receiver(t, 0, 3)
	long := strings.Repeat("\xffy", longest/2)
	for _, more := range []int{1, 2, 100, 5536, longest, api.MaxBytes - longest - 10} {
		wantNoTake(t, r, dataOf(0, 0, long+strings.Repeat("z", more)), api.ErrForm)
		wantNoTake(t, r, dataOf(1, 0, long+strings.Repeat("z", more)), api.ErrForm)
	}
	wantTake(t, r, dataOf(0, 1, long), ackOf(0, 0))
	wantTake(t, r, dataOf(0, 0, long[1:]), ackOf(0, 2), long[1:], long)
	wantNoTake(t, r, dataOf(1, 2, long), api.ErrStale)
	wantTake(t, r, dataOf(0, api.MaxSeq, long), ackOf(0, 2))
}

// The longest packet there can be goes over the net of layer 18.
func TestLongestPacket(t *testing.T) {
	if n := len(dataOf(api.MaxEpoch, api.MaxSeq, strings.Repeat("x", longest))); n > api.MaxFrame {
		t.Error(n)
	}
}

// 19.1: at most api.MaxItems texts are not acknowledged; behind an acknowledgement there is room.
func TestFull(t *testing.T) {
	s := sender(t, 9, 2, 1)
	for n := range api.MaxItems {
		wantPush(t, s, strconv.Itoa(n), api.OK)
	}
	for range 2 {
		wantPush(t, s, "more", api.ErrLong)
		wantPush(t, s, "", api.ErrLong)
		wantLeft(t, s, api.MaxItems)
	}
	wantHeard(t, s, ackOf(9, api.MaxItems+1), api.ErrRange)
	wantHeard(t, s, ackOf(9, 0), api.OK)
	wantPush(t, s, "more", api.ErrLong)
	wantHeard(t, s, ackOf(9, 1), api.OK)
	wantPush(t, s, "one", api.OK)
	wantPush(t, s, "more", api.ErrLong)
	wantHeard(t, s, ackOf(9, api.MaxItems-1), api.OK)
	wantLeft(t, s, 2)
	wantDue(t, s, 0, dataOf(9, api.MaxItems-1, strconv.Itoa(api.MaxItems-1)), dataOf(9, api.MaxItems, "one"))
	for range api.MaxItems - 2 {
		wantPush(t, s, "", api.OK)
	}
	wantPush(t, s, "", api.ErrLong)
	wantHeard(t, s, ackOf(9, 2*api.MaxItems-1), api.OK)
	wantLeft(t, s, 0)
}

// 19.1, 19.2, 19.3: the last number is api.MaxSeq; its text is sent and acknowledged, and no other is pushed.
func TestLastNumber(t *testing.T) {
	t.Parallel()
	s := sender(t, api.MaxEpoch, 256, 1)
	for n := range api.MaxSeq + 1 {
		if n%api.MaxItems == 0 {
			wantHeard(t, s, ackOf(api.MaxEpoch, n), api.OK)
		}
		if e := s.Push(""); e != api.OK {
			t.Fatalf("Push of the text %d = %d", n, e)
		}
	}
	wantLeft(t, s, 1)
	wantPush(t, s, "", api.ErrLong)
	wantDue(t, s, 0, dataOf(api.MaxEpoch, api.MaxSeq, ""))
	wantHeard(t, s, ackOf(api.MaxEpoch, api.MaxSeq+2), api.ErrForm)
	wantHeard(t, s, ackOf(api.MaxEpoch, api.MaxSeq), api.OK)
	wantLeft(t, s, 1)
	wantHeard(t, s, ackOf(api.MaxEpoch, api.MaxSeq+1), api.OK)
	wantLeft(t, s, 0)
	wantPush(t, s, "", api.ErrLong)
	wantDue(t, s, api.MaxTicks)
}

// 19.2: a tick is from 0 to api.MaxTicks, and not below the last one that was told; one that is
// refused is not that, and sends nothing.
func TestTicks(t *testing.T) {
	s := sender(t, 0, 1, 2)
	a := dataOf(0, 0, "a")
	pushAll(t, s, "a")
	for _, now := range wrongs {
		wantNoDue(t, s, now)
	}
	wantDue(t, s, 5, a)
	for _, now := range append([]int{0, 1, 3, 4}, wrongs...) {
		wantNoDue(t, s, now)
	}
	wantDue(t, s, 5)
	wantDue(t, s, 6)
	wantNoDue(t, s, 5)
	wantDue(t, s, 7, a)
	wantDue(t, s, api.MaxTicks-1, a)
	wantNoDue(t, s, api.MaxTicks+1)
	wantNoDue(t, s, api.MaxTicks-2)
	wantDue(t, s, api.MaxTicks)
	wantNoDue(t, s, api.MaxTicks-1)
	wantNoDue(t, s, api.MaxTicks+1)
	pushAll(t, s, "b")
	wantHeard(t, s, ackOf(0, 1), api.OK)
	wantDue(t, s, api.MaxTicks, dataOf(0, 1, "b"))
}

// 19.2: also a call that tells nothing sets the tick below which none may be.
func TestTicksOfNothing(t *testing.T) {
	s := sender(t, 0, 1, 2)
	wantDue(t, s, 3)
	wantNoDue(t, s, 2)
	pushAll(t, s, "a")
	wantNoDue(t, s, 2)
	wantDue(t, s, 3, dataOf(0, 0, "a"))
}

// 19.3, R1: what is no acknowledgement goes ahead of the wrong epoch, that ahead of a number that is
// too great; nothing changes.
func TestHeardOrder(t *testing.T) {
	s := sender(t, 4, 3, 1)
	pushAll(t, s, "a", "b")
	for _, epoch := range []int{0, 3, 5, api.MaxEpoch} {
		for _, number := range []int{0, 1, 2, 3, api.MaxSeq, api.MaxSeq + 1} {
			wantHeard(t, s, ackOf(epoch, number), api.ErrStale)
		}
		wantHeard(t, s, ackOf(epoch, api.MaxSeq+2), api.ErrForm)
		wantHeard(t, s, ackOf(epoch, -1), api.ErrForm)
		wantHeard(t, s, dataOf(epoch, 0, "a"), api.ErrForm)
	}
	for _, number := range []int{3, 4, 256, api.MaxSeq, api.MaxSeq + 1} {
		wantHeard(t, s, ackOf(4, number), api.ErrRange)
	}
	for _, epoch := range []int{-1, api.MaxEpoch + 1} {
		wantHeard(t, s, ackOf(epoch, 1), api.ErrForm)
	}
	wantLeft(t, s, 2)
	wantDue(t, s, 0, dataOf(4, 0, "a"), dataOf(4, 1, "b"))
}

// 19.4, R1: likewise what is no data packet; what is of another epoch is not let in.
func TestTakeOrder(t *testing.T) {
	r := receiver(t, 4, 3)
	for _, epoch := range []int{0, 3, 5, api.MaxEpoch} {
		for _, number := range []int{0, 1, 2, 3, api.MaxSeq} {
			wantNoTake(t, r, dataOf(epoch, number, "x"), api.ErrStale)
		}
		wantNoTake(t, r, dataOf(epoch, api.MaxSeq+1, "x"), api.ErrForm)
		wantNoTake(t, r, dataOf(epoch, -1, "x"), api.ErrForm)
		wantNoTake(t, r, ackOf(epoch, 0), api.ErrForm)
	}
	for _, epoch := range []int{-1, api.MaxEpoch + 1} {
		wantNoTake(t, r, dataOf(epoch, 0, "x"), api.ErrForm)
	}
	wantNoTake(t, r, dataOf(4, api.MaxSeq+1, "x"), api.ErrForm)
	wantNext(t, r, 0)
	wantTake(t, r, dataOf(4, 1, "b"), ackOf(4, 0))
	wantTake(t, r, dataOf(4, 0, "a"), ackOf(4, 2), "a", "b")
	wantTake(t, r, dataOf(4, 2, "c"), ackOf(4, 3), "c")
}

// 19.2, 19.4: a window full of the longest texts, turned about.
func TestLongestWindow(t *testing.T) {
	s, r := sender(t, 1, 256, 1), receiver(t, 1, 256)
	var want []string
	for n := range 256 {
		text := strconv.Itoa(n)
		text += strings.Repeat("l", longest-len(text))
		want = append(want, text)
		pushAll(t, s, text)
	}
	packets, _ := s.Due(0)
	if len(packets) != 256 {
		t.Fatal(len(packets))
	}
	for _, i := range rand.New(rand.NewSource(1)).Perm(255) {
		wantTake(t, r, packets[i+1], ackOf(1, 0))
	}
	wantTake(t, r, packets[0], ackOf(1, 256), want...)
	wantHeard(t, s, ackOf(1, 256), api.OK)
	wantLeft(t, s, 0)
}
