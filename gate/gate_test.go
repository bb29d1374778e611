package gate_test

import (
	"strconv"
	"strings"
	"testing"

	"weaver/api"
)

// 21.3: the chapter's example, which is the seventh of DOC.md, too.
func TestExample(t *testing.T) {
	g := given(t, 2, 3, 1)
	lay(t, g, 0, 1, "a", "|", "b")
	lay(t, g, 1, 1, "c", "d", "|")
	wantPullText(t, g, 0, "a")
	wantPullText(t, g, 1, "c")
	wantPullText(t, g, 1, "d")
	wantPullBarrier(t, g, 1)
	wantPullText(t, g, 0, "b")
	wantPullNone(t, g)
}

// 21.1: credits are given as a store's: at most as many as are asked for, and as there are.
func TestGive(t *testing.T) {
	g := newGate(t, 2, 10, 1)
	for _, x := range [][2]int{{0, 0}, {3, 3}, {0, 0}, {1, 1}, {5, 5}, {2, 1}, {1, 0}, {0, 0}} {
		wantGive(t, g, 0, x[0], x[1], api.OK)
	}
	for _, most := range aboves {
		wantGive(t, g, 0, most, 0, api.OK)
	}
	wantGive(t, g, 1, 4, 4, api.OK)
	wantGive(t, g, 1, aboves[len(aboves)-1], 6, api.OK)
}

// 21.1, R5: below 0 is refused, whether credits are left or not, and changes nothing.
func TestGiveBelow(t *testing.T) {
	g := newGate(t, 1, 2, 1)
	for range 2 {
		for _, most := range belows {
			wantGive(t, g, 0, most, 0, api.ErrRange)
		}
		wantGive(t, g, 0, 1, 1, api.OK)
	}
	for _, most := range belows {
		wantGive(t, g, 0, most, 0, api.ErrRange)
	}
	wantGive(t, g, 0, 1, 0, api.OK)
	lay(t, g, 0, 1, "a", "b")
	wantText(t, g, 0, "c", api.ErrCredit)
}

// 21.1, 21.2: a text and a barrier each need a credit, and give it back as they are pulled: it must
// be given anew.
func TestCredits(t *testing.T) {
	g := given(t, 1, 2, 1)
	lay(t, g, 0, 1, "a", "|")
	wantText(t, g, 0, "b", api.ErrCredit)
	wantBarrier(t, g, 0, 2, api.ErrCredit)
	wantGive(t, g, 0, 9, 0, api.OK)
	wantPullText(t, g, 0, "a")
	wantText(t, g, 0, "b", api.ErrCredit)
	wantGive(t, g, 0, 9, 1, api.OK)
	wantText(t, g, 0, "b", api.OK)
	wantPullBarrier(t, g, 1)
	wantBarrier(t, g, 0, 2, api.ErrCredit)
	wantGive(t, g, 0, 9, 1, api.OK)
	wantBarrier(t, g, 0, 2, api.OK)
	wantLens(t, g, 2)
	wantPullText(t, g, 0, "b")
	wantPullBarrier(t, g, 2)
	wantGive(t, g, 0, 9, 2, api.OK)
}

// 21.1, 21.3: a barrier that is told leaves a credit on each channel, not on one alone.
func TestBarrierCredits(t *testing.T) {
	g := given(t, 3, 1, 1)
	for n := 1; n <= 5; n++ {
		for c := range 3 {
			wantBarrier(t, g, c, n, api.OK)
			wantGive(t, g, c, 9, 0, api.OK)
		}
		wantLens(t, g, 1, 1, 1)
		wantPullBarrier(t, g, n)
		wantLens(t, g, 0, 0, 0)
		for c := range 3 {
			wantGive(t, g, c, 9, 1, api.OK)
		}
	}
}

// 21.2: texts of up to 60000 bytes are right, an empty one, too; a longer one is ErrLong, ahead of
// ErrCredit, and takes no credit.
func TestTexts(t *testing.T) {
	texts := []string{"", "a", "\x00", "", "\xff\xfe", "|", "ä€𝄞", strings.Repeat("€", maxText/3), long[1:], ""}
	g := newGate(t, 1, len(texts), 1)
	wantText(t, g, 0, long, api.ErrLong)
	wantText(t, g, 0, long[1:], api.ErrCredit)
	wantGive(t, g, 0, len(texts), len(texts), api.OK)
	for k, text := range texts {
		for _, more := range []int{0, 1, api.MaxBytes} {
			wantText(t, g, 0, long+strings.Repeat("-", more), api.ErrLong)
		}
		wantLen(t, g, 0, k, api.OK)
		wantText(t, g, 0, text, api.OK)
	}
	wantText(t, g, 0, long, api.ErrLong)
	wantText(t, g, 0, "", api.ErrCredit)
	for _, text := range texts {
		wantPullText(t, g, 0, text)
	}
	wantPullNone(t, g)
}

// 21.2: each channel counts its barriers by itself; another number is ErrRange, ahead of ErrCredit,
// and what is refused is not counted.
func TestBarrierNumbers(t *testing.T) {
	g := newGate(t, 2, 3, 5)
	for next := 5; next < 8; next++ {
		wrong := append(append([]int{0, 1, 4, next - 1, next + 1, next + 2, -next, next + 1<<32}, belows...), aboves...)
		for _, n := range wrong {
			wantBarrier(t, g, 0, n, api.ErrRange)
		}
		wantBarrier(t, g, 0, next, api.ErrCredit)
		wantGive(t, g, 0, 1, 1, api.OK)
		for _, n := range wrong {
			wantBarrier(t, g, 0, n, api.ErrRange)
		}
		wantBarrier(t, g, 0, next, api.OK)
		wantBarrier(t, g, 0, next, api.ErrRange)
		wantLens(t, g, next-4, 0)
		wantBarrier(t, g, 1, next+1, api.ErrRange)
		wantBarrier(t, g, 1, 5, api.ErrCredit)
	}
}

// 21.2: barriers are counted on behind api.MaxSeq.
func TestBarrierBehindMaxSeq(t *testing.T) {
	g := given(t, 1, 3, api.MaxSeq)
	lay(t, g, 0, api.MaxSeq, "|", "|", "|")
	for n := range 3 {
		wantPullBarrier(t, g, api.MaxSeq+n)
	}
}

// 21.3: the channels take turns, from 0 on and behind the last one the first; one that has no items
// is passed over, and Pull goes on behind the last one from which a text came.
func TestTurns(t *testing.T) {
	g := given(t, 3, 5, 1)
	lay(t, g, 2, 1, "c", "c2", "c3")
	lay(t, g, 0, 1, "a", "a2")
	lay(t, g, 1, 1, "b")
	wantPullText(t, g, 0, "a")
	wantPullText(t, g, 1, "b")
	wantPullText(t, g, 2, "c")
	wantPullText(t, g, 0, "a2")
	wantPullText(t, g, 2, "c2")
	lay(t, g, 0, 1, "a3")
	lay(t, g, 1, 1, "b2")
	wantPullText(t, g, 0, "a3")
	wantPullText(t, g, 1, "b2")
	lay(t, g, 0, 1, "a4")
	lay(t, g, 1, 1, "b3")
	wantPullText(t, g, 2, "c3")
	wantPullText(t, g, 0, "a4")
	wantPullText(t, g, 1, "b3")
	wantPullNone(t, g)
	lay(t, g, 1, 1, "b4", "b5")
	lay(t, g, 0, 1, "a5")
	wantPullText(t, g, 0, "a5")
	wantPullText(t, g, 1, "b4")
	wantPullText(t, g, 1, "b5")
}

// 21.3: a barrier that is told, and a Pull that finds none, leave the turns as they are.
func TestTurnsBehindABarrier(t *testing.T) {
	for last := range 3 {
		g := given(t, 3, 9, 1)
		lay(t, g, last, 1, "last")
		wantPullText(t, g, last, "last")
		wantPullNone(t, g)
		for c := range 3 {
			lay(t, g, c, 1, "|", "a")
		}
		wantPullBarrier(t, g, 1)
		for k := range 3 {
			wantPullText(t, g, (last+1+k)%3, "a")
		}
		wantPullNone(t, g)
	}
}

// 21.3: at first the turn is 0's, though a barrier came ahead.
func TestTurnsBehindAFirstBarrier(t *testing.T) {
	g := given(t, 3, 9, 1)
	for c := range 3 {
		lay(t, g, c, 1, "|", "a", "b")
	}
	wantPullBarrier(t, g, 1)
	for _, text := range []string{"a", "b"} {
		for c := range 3 {
			wantPullText(t, g, c, text)
		}
	}
}

// 21.3, 21.4: a blocked channel is held back, whatever stands behind its barrier, until the same
// barrier stands first on all others.
func TestHeldBack(t *testing.T) {
	g := given(t, 2, 9, 4)
	lay(t, g, 0, 4, "|", "a", "|", "b")
	wantBlocked(t, g, true, false)
	wantPullNone(t, g)
	lay(t, g, 1, 4, "c")
	wantPullText(t, g, 1, "c")
	wantPullNone(t, g)
	lay(t, g, 1, 4, "d", "|")
	wantBlocked(t, g, true, false)
	wantPullText(t, g, 1, "d")
	wantBlocked(t, g, true, true)
	wantLens(t, g, 4, 1)
	wantPullBarrier(t, g, 4)
	wantLens(t, g, 3, 0)
	wantBlocked(t, g, false, false)
	wantPullText(t, g, 0, "a")
	wantBlocked(t, g, true, false)
	wantPullNone(t, g)
	lay(t, g, 1, 5, "|")
	wantPullBarrier(t, g, 5)
	wantPullText(t, g, 0, "b")
	wantPullNone(t, g)
}

// 21.3: barriers that follow one another are told one by one.
func TestBarriersInARow(t *testing.T) {
	g := given(t, 2, 3, 1)
	lay(t, g, 0, 1, "|", "|", "|")
	lay(t, g, 1, 1, "|", "|")
	wantPullBarrier(t, g, 1)
	wantBlocked(t, g, true, true)
	wantPullBarrier(t, g, 2)
	wantBlocked(t, g, true, false)
	wantPullNone(t, g)
	lay(t, g, 1, 3, "|")
	wantPullBarrier(t, g, 3)
	wantPullNone(t, g)
}

// 21.3: a gate of one channel tells what came as it came.
func TestOneChannel(t *testing.T) {
	g := given(t, 1, 6, 2)
	lay(t, g, 0, 2, "|", "a", "b", "|", "|", "c")
	wantBlocked(t, g, true)
	wantPullBarrier(t, g, 2)
	wantBlocked(t, g, false)
	wantPullText(t, g, 0, "a")
	wantPullText(t, g, 0, "b")
	wantPullBarrier(t, g, 3)
	wantPullBarrier(t, g, 4)
	wantPullText(t, g, 0, "c")
	wantPullNone(t, g)
}

// 21.1 to 21.5: the greatest gate, all of its channels full to the last credit.
func TestGreatest(t *testing.T) {
	g := given(t, maxChannels, api.MaxCredit, api.MaxSeq)
	for c := range maxChannels {
		for k := range api.MaxCredit - 1 {
			wantText(t, g, c, strconv.Itoa(c)+" "+strconv.Itoa(k), api.OK)
		}
		wantBarrier(t, g, c, api.MaxSeq, api.OK)
		wantText(t, g, c, "more", api.ErrCredit)
		wantLen(t, g, c, api.MaxCredit, api.OK)
	}
	for k := range api.MaxCredit - 1 {
		for c := range maxChannels {
			wantPullText(t, g, c, strconv.Itoa(c)+" "+strconv.Itoa(k))
		}
	}
	wantPullBarrier(t, g, api.MaxSeq)
	wantPullNone(t, g)
}
