package sink_test

import (
	"math"
	"strconv"
	"strings"
	"testing"

	"weaver/api"
	"weaver/disk"
)

// 23.1: no disk; a disk without a ledger; asking changes nothing.
func TestOpenNothing(t *testing.T) {
	wantNotOpened(t, nil, api.ErrNone)
	d := disk.New()
	s := opened(t, d)
	wantLedger(t, s)
	wantState(t, s, 0, 0)
	wantFiles(t, d)
	wantWaiting(t, d, 0)
	bringDown(t, d)
	s = opened(t, d)
	wantLedger(t, s)
	wantState(t, s, 0, 0)
}

// 23.1: ledgers that are whole are opened as they stand, without a change, and without a sync.
func TestOpenWhole(t *testing.T) {
	a, b := two("a", 3), two("zz9", 5)
	for _, x := range []struct {
		ledger  string
		last    int
		matches []api.Match
	}{
		{"", 0, nil},
		{committedOf(1), 1, nil},
		{committedOf(1, a), 1, []api.Match{a}},
		{committedOf(7, b, a, b), 7, []api.Match{b, a, b}},
		{committedOf(api.MaxSeq, a), api.MaxSeq, []api.Match{a}},
		{committedOf(1, a) + committedOf(2) + committedOf(90, b, b), 90, []api.Match{a, b, b}},
		{committedOf(1) + committedOf(2) + committedOf(3), 3, nil},
		{committedOf(1, longest(0)) + committedOf(2, longest(1)), 2, []api.Match{longest(0), longest(1)}},
		{committedOf(4, ones(maxHeld)...), 4, ones(maxHeld)},
		{committedOf(4, ones(maxHeld+1)...), 4, ones(maxHeld + 1)},
	} {
		d := diskOf(t, "ledger", x.ledger)
		bringDown(t, d)
		s := opened(t, d)
		wantLedger(t, s, x.matches...)
		wantState(t, s, x.last, 0)
		wantFiles(t, d, "ledger", x.ledger)
		wantWaiting(t, d, 0)
	}
}

// 23.1: a last transaction that is there in part, text by text, byte by byte, is cut off, and all is synced.
func TestOpenPart(t *testing.T) {
	for _, ahead := range []string{"", committedOf(1), committedOf(1, one(4)) + committedOf(2, one(5), two("b", 1))} {
		whole := ahead + committedOf(9, two("a", 3), one(7))
		begun := len(ahead + frameOf(number(9)))
		for n := len(ahead); n < len(whole); n++ {
			d := diskOf(t, "ledger", whole[:n])
			want(t, d.Write("waits", 0, "x"), api.OK)
			s := opened(t, d)
			wantFiles(t, d, "ledger", ahead, "waits", "x")
			switch {
			case n >= begun:
				wantWaiting(t, d, 0)
			case n > len(ahead):
				wantWaiting(t, d, 2)
			default:
				wantWaiting(t, d, 1)
			}
			wantLedger(t, s, opened(t, diskOf(t, "ledger", ahead)).Ledger()...)
			prepare(t, s, 10, one(8))
			wantCommit(t, s, 10, api.OK)
			wantFiles(t, d, "ledger", ahead+committedOf(10, one(8)), "waits", "x")
		}
		s := opened(t, diskOf(t, "ledger", whole))
		wantState(t, s, 9, 0)
	}
}

// 23.1: a part with the same number is written anew by a commit.
func TestOpenPartThenCommit(t *testing.T) {
	part := frameOf(number(3)) + frameOf(matchOf(one(1)))
	d := diskOf(t, "ledger", committedOf(2, one(0))+part, "t.3", fileOf(one(1), one(2)))
	s := opened(t, d)
	wantState(t, s, 2, 0, 3)
	wantLedger(t, s, one(0))
	wantCommit(t, s, 3, api.OK)
	wantLedger(t, s, one(0), one(1), one(2))
	wantFiles(t, d, "ledger", committedOf(2, one(0))+committedOf(3, one(1), one(2)))
}

// 23.1: the cut, and the sync behind it, may be refused.
func TestOpenRefused(t *testing.T) {
	whole := committedOf(1, one(0))
	for _, x := range []struct {
		tail  string
		calls int
	}{
		{frameOf(number(2)), 2},
		{frameOf(number(2)) + frameOf(matchOf(one(1))), 2},
		{frameOf(number(2)) + "W", 3},
		{"WF", 1},
	} {
		for fuse := range x.calls + 2 {
			d := diskOf(t, "ledger", whole+x.tail)
			want(t, d.Fuse(fuse), api.OK)
			if fuse < x.calls {
				wantNotOpened(t, d, api.ErrDown)
				d.Crash(fuse%2, -1)
			}
			s := opened(t, d)
			wantLedger(t, s, one(0))
			wantFiles(t, d, "ledger", whole)
		}
		d := diskOf(t, "ledger", whole+x.tail)
		waitFor(t, d, api.MaxWrites)
		wantNotOpened(t, d, api.ErrFull)
		wantFiles(t, d, "ledger", whole+x.tail, "z", "")
	}
	d := diskOf(t, "ledger", whole+frameOf(number(2))+"W")
	waitFor(t, d, api.MaxWrites-1)
	wantNotOpened(t, d, api.ErrFull)
	d = diskOf(t, "ledger", whole+frameOf(number(2))+"W")
	waitFor(t, d, api.MaxWrites-2)
	wantLedger(t, opened(t, d), one(0))
}

// 23.1: frames that are none of a tape's.
func TestOpenCorruptTape(t *testing.T) {
	whole := committedOf(1, one(0)) + committedOf(2, two("b", 9), one(3))
	for at := range len(whole) {
		for _, by := range []byte{1, 0x80, 0xff} {
			if isOfNumber(whole, at) {
				continue
			}
			b := []byte(whole)
			b[at] ^= by
			d := diskOf(t, "ledger", string(b))
			wantNotOpened(t, d, api.ErrCorrupt)
			wantFiles(t, d, "ledger", string(b))
			wantWaiting(t, d, 0)
		}
	}
	for _, tail := range []string{"z", "Wz", "zzzzzzzzzzzz", frameOf("x") + "z", "WF\xff\xff\xff\xff"} {
		d := diskOf(t, "ledger", whole+tail+strings.Repeat("z", 20))
		wantNotOpened(t, d, api.ErrCorrupt)
		wantWaiting(t, d, 0)
	}
}

// isOfNumber tells of a byte that is one of a frame's number: a greater one makes it a frame that ends too early.
func isOfNumber(whole string, at int) bool {
	for i := 0; i < len(whole); {
		if at >= i+2 && at < i+6 {
			return true
		}
		i += 10 + int(whole[i+5])
	}
	return false
}

// wrongTexts are no texts of a ledger, wherever they stand.
func wrongTexts() []string {
	l := []string{
		"", "x", "\x00", "\x01", number(1)[:1], text(""), text("x"), text("k") + number(1), text("1"),
		number(1) + text(""), text("") + number(1), number(1) + text("x"), text("1") + text("0"),
		number(1) + number(0) + number(0), number(1) + number(0) + text(""), number(1) + number(1) + number(1) + number(1),
		"\x01\x80\x02", number(1) + "\x00", number(1) + "x", "x" + number(1),
		matchOf(one(1)) + number(0), matchOf(one(-1)), matchOf(api.Match{Key: "K", Stages: [][]int{{1}}}), matchOf(api.Match{Key: "k"}),
		matchOf(api.Match{Key: "k", Stages: [][]int{{2, 1}}}), matchOf(api.Match{Key: "k", Stages: [][]int{{}}}), matchOf(one(api.MaxSeq + 1)),
		text(matchOf(one(1))), frameOf(number(1)), strings.Repeat(number(0), api.MaxItems+1), strings.Repeat("x", api.MaxFrame),
	}
	return l
}

// 23.1: texts of no kind, at every place of a ledger.
func TestOpenWrongTexts(t *testing.T) {
	frames := []string{frameOf(number(1)), frameOf(matchOf(one(0))), frameOf(number(1) + number(1)), frameOf(number(5)), frameOf(matchOf(one(0))), frameOf(matchOf(one(2))), frameOf(number(5) + number(2))}
	for _, wrong := range wrongTexts() {
		for i := range len(frames) + 1 {
			b := strings.Join(frames[:i], "") + frameOf(wrong)
			wantNotOpened(t, diskOf(t, "ledger", b), api.ErrCorrupt)
			wantNotOpened(t, diskOf(t, "ledger", b+strings.Join(frames[i:], "")), api.ErrCorrupt)
		}
	}
}

// 23.1: texts of the ledger's kinds that stand where they may not, or tell another number.
func TestOpenWrongOrder(t *testing.T) {
	begin := func(c int) string { return frameOf(number(c)) }
	m := frameOf(matchOf(one(1)))
	end := func(c, n int) string { return frameOf(number(c) + number(n)) }
	for _, b := range []string{
		m, end(1, 0), end(1, 1), m + end(1, 1),
		begin(1) + begin(1), begin(1) + begin(2), begin(1) + m + begin(2),
		begin(1) + end(1, 1), begin(1) + end(1, -1), begin(1) + m + end(1, 0), begin(1) + m + end(1, 2), begin(1) + m + m + end(1, 1),
		begin(1) + end(2, 0), begin(2) + end(1, 0), begin(1) + m + end(2, 1), begin(1) + end(0, 0), begin(1) + end(-1, 0),
		begin(1) + end(0, 1), begin(1) + m + end(1, math.MaxInt), begin(1) + m + end(1, 1<<32+1), begin(1) + end(1<<32+1, 0),
		committedOf(1) + m, committedOf(1) + end(1, 0), committedOf(1) + end(2, 0), committedOf(1, one(1)) + end(1, 1),
		committedOf(1) + begin(1), committedOf(1) + committedOf(1), committedOf(2) + begin(1), committedOf(2) + committedOf(1),
		committedOf(1) + committedOf(3) + begin(3), committedOf(1) + committedOf(3) + begin(2),
		committedOf(api.MaxSeq) + begin(api.MaxSeq), committedOf(api.MaxSeq) + begin(1),
	} {
		for _, tail := range []string{"", "W", committedOf(9)} {
			wantNotOpened(t, diskOf(t, "ledger", b+tail), api.ErrCorrupt)
		}
	}
	for _, c := range append(append([]int{0}, belows...), aboves...) {
		wantNotOpened(t, diskOf(t, "ledger", begin(c)), api.ErrCorrupt)
		wantNotOpened(t, diskOf(t, "ledger", begin(c)+end(c, 0)), api.ErrCorrupt)
		wantNotOpened(t, diskOf(t, "ledger", committedOf(1)+begin(c)+m+end(c, 1)), api.ErrCorrupt)
	}
}

// 23.1: Pending are the files of numbers above the last one, rising as numbers; other names are none.
func TestPending(t *testing.T) {
	others := []string{
		"t", "t.", "t.0", "t.00", "t.01", "t.007", "t.a", "t.1a", "t.a1", "t.1.", "t..1", "t.1.2", "tt.1", "at.1", "1", "t1", "u.1",
		"t.1073741825", "t.2147483647", "t.2147483648", "t.4294967297", "t.9223372036854775807", "t.9223372036854775808", "t.18446744073709551617", "s.1.0", "m", "x1",
	}
	d := diskOf(t, "ledger", committedOf(3))
	for _, name := range others {
		want(t, d.Write(name, 0, ""), api.OK)
	}
	s := opened(t, d)
	wantState(t, s, 3, 0)
	for _, c := range []int{100, 3, 9, 1, api.MaxSeq, 10, 2, 4, 90} {
		want(t, d.Write(nameOf(c), 0, "whatever"), api.OK)
	}
	wantState(t, s, 3, 0, 4, 9, 10, 90, 100, api.MaxSeq)
	wantState(t, opened(t, d), 3, 0, 4, 9, 10, 90, 100, api.MaxSeq)
	bringDown(t, d)
	wantState(t, s, 3, 0, 4, 9, 10, 90, 100, api.MaxSeq)
}

// 23.1: as many files as a disk has.
func TestPendingMany(t *testing.T) {
	d := diskOf(t)
	s := opened(t, d)
	var all []int
	for c := range api.MaxFiles {
		want(t, d.Write("t."+strconv.Itoa(1000-c), 0, ""), api.OK)
		all = append(all, 1000-api.MaxFiles+1+c)
	}
	wantState(t, s, 0, 0, all...)
}

// 23.1: what Held tells is of this sink alone, and not on the disk.
func TestHeldIsNotOnTheDisk(t *testing.T) {
	d := disk.New()
	s := opened(t, d)
	put(t, s, one(1), one(2))
	wantState(t, s, 0, 2)
	wantFiles(t, d)
	wantState(t, opened(t, d), 0, 0)
	wantState(t, s, 0, 2)
}
