package sink_test

import (
	"strings"
	"testing"

	"weaver/api"
	"weaver/disk"
)

// prepared is a disk on which each number is prepared, with one match of that place.
func prepared(t *testing.T, numbers ...int) *disk.Disk {
	t.Helper()
	d := disk.New()
	s := opened(t, d)
	for _, c := range numbers {
		prepare(t, s, c, one(c))
	}
	return d
}

// 23.3: the chapter's steps: the texts stand in the ledger, safe; the file is removed, which is not synced.
func TestCommit(t *testing.T) {
	d := disk.New()
	s := opened(t, d)
	prepare(t, s, 1, one(0))
	prepare(t, s, 2, two("b", 3), two("a", 1))
	prepare(t, s, 4)
	put(t, s, one(9))
	want(t, d.Write("waits", 0, "x"), api.OK)
	ledger := committedOf(1, one(0))
	wantCommit(t, s, 1, api.OK)
	wantWaiting(t, d, 1)
	wantFiles(t, d, "waits", "x", "ledger", ledger, "t.2", fileOf(two("b", 3), two("a", 1)), "t.4", fileOf())
	wantState(t, s, 1, 1, 2, 4)
	wantLedger(t, s, one(0))
	ledger += committedOf(2, two("b", 3), two("a", 1))
	wantCommit(t, s, 2, api.OK)
	wantFiles(t, d, "waits", "x", "ledger", ledger, "t.4", fileOf())
	wantState(t, s, 2, 1, 4)
	wantLedger(t, s, one(0), two("b", 3), two("a", 1))
	ledger += committedOf(4)
	wantCommit(t, s, 4, api.OK)
	wantFiles(t, d, "waits", "x", "ledger", ledger)
	wantState(t, s, 4, 1)
	wantLedger(t, s, one(0), two("b", 3), two("a", 1))
	d.Crash(0, -1)
	wantFiles(t, d, "waits", "x", "ledger", ledger, "t.4", fileOf())
	s = opened(t, d)
	wantState(t, s, 4, 0)
	wantLedger(t, s, one(0), two("b", 3), two("a", 1))
}

// 23.3: what was committed is answered OK, and nothing is done: with its file there, and on a disk that is down, too.
func TestCommitAgain(t *testing.T) {
	d := prepared(t, 2, 5, 9)
	s := opened(t, d)
	wantCommit(t, s, 2, api.OK)
	wantCommit(t, s, 5, api.OK)
	want(t, d.Write("t.2", 0, "x"), api.OK)
	want(t, d.Write("t.4", 0, fileOf(one(4))), api.OK)
	for c := 1; c <= 5; c++ {
		wantSame(t, d, s, func() { wantCommit(t, s, c, api.OK) })
	}
	bringDown(t, d)
	for c := 1; c <= 5; c++ {
		wantSame(t, d, s, func() { wantCommit(t, s, c, api.OK) })
	}
	d.Crash(5, -1)
	s = opened(t, d)
	for c := 1; c <= 5; c++ {
		wantSame(t, d, s, func() { wantCommit(t, s, c, api.OK) })
	}
	wantLedger(t, s, one(2), one(5))
}

// 23.3: no file of that number, or one of a number from the last one on that is left out.
func TestCommitWrong(t *testing.T) {
	d := prepared(t, 3, 4, 7)
	s := opened(t, d)
	for _, next := range []int{3, 4, 7, 12} {
		for c := s.Last() + 1; c < 12; c++ {
			if c != next {
				wantSame(t, d, s, func() { wantCommit(t, s, c, api.ErrTxn) })
			}
		}
		for _, c := range append(append([]int{0, api.MaxSeq}, belows...), aboves...) {
			wantSame(t, d, s, func() { wantCommit(t, s, c, api.ErrTxn) })
		}
		if next < 12 {
			wantCommit(t, s, next, api.OK)
		}
	}
	wantLedger(t, s, one(3), one(4), one(7))
}

// 23.3: files of names that are no transaction's are neither committed nor in the way.
func TestCommitStrangeNames(t *testing.T) {
	d := diskOf(t, "t.0", fileOf(one(0)), "t.01", fileOf(one(1)), "t.1073741825", fileOf(one(2)), "t.2147483648", fileOf(one(3)), "t.", fileOf(one(4)), "t.2", fileOf(one(5)))
	s := opened(t, d)
	for _, c := range []int{0, 1, api.MaxSeq, api.MaxSeq + 1, 1 << 31} {
		wantSame(t, d, s, func() { wantCommit(t, s, c, api.ErrTxn) })
	}
	wantCommit(t, s, 2, api.OK)
	wantLedger(t, s, one(5))
	wantState(t, s, 2, 0)
}

// wrongFiles are no frame, or more than one, or a frame of no list of matches' bytes.
func wrongFiles() []string {
	whole := fileOf(one(1), two("b", 2))
	l := []string{
		"", "x", whole + "x", whole + whole, "x" + whole, whole + "W", fileOf() + fileOf(), matchOf(one(1)), listOf(one(1)),
		frameOf("x"), frameOf("\x01"), frameOf(number(1)), frameOf(matchOf(one(1))), frameOf(number(1) + listOf(one(1))), frameOf(listOf(one(1)) + number(1)),
		frameOf(text("")), frameOf(text("x")), frameOf(listOf(one(1)) + text("")), frameOf(listOf(one(1)) + "\x00"), frameOf(number(0)),
		frameOf(text(matchOf(one(1)) + number(1))), frameOf(text(number(1))), frameOf(text(listOf(one(1)))), frameOf(text(fileOf(one(1)))),
		frameOf(listOf(one(0)) + strings.Repeat(number(0), api.MaxItems)), "WF\x00\x01\x00\x01", whole[:10] + whole[11:],
	}
	for i := range len(whole) {
		b := []byte(whole)
		b[i] ^= 0x20
		l = append(l, whole[:i], string(b))
	}
	for _, m := range wrongMatches() {
		l = append(l, frameOf(listOf(one(1))+listOf(m)), frameOf(listOf(m)))
	}
	return l
}

// 23.3, R5: a file that is not just one frame of matches' bytes: nothing has changed.
func TestCommitCorrupt(t *testing.T) {
	for _, b := range wrongFiles() {
		d := diskOf(t, "ledger", committedOf(1, one(0)), "t.3", b, "t.4", fileOf(one(4)))
		s := opened(t, d)
		put(t, s, one(8))
		want(t, d.Write("waits", 0, "x"), api.OK)
		wantSame(t, d, s, func() { wantCommit(t, s, 3, api.ErrCorrupt) })
		wantSame(t, d, s, func() { wantCommit(t, s, 4, api.ErrTxn) })
		bringDown(t, d)
		wantCommit(t, s, 3, api.ErrCorrupt)
		d.Crash(0, -1)
		s = opened(t, d)
		prepare(t, s, 3, one(5))
		wantCommit(t, s, 3, api.OK)
		wantCommit(t, s, 4, api.OK)
		wantLedger(t, s, one(0), one(5), one(4))
	}
}

// 23.3: what the disk refuses on the way, call by call: the steps ahead of it are made.
func TestCommitRefused(t *testing.T) {
	file, ahead := fileOf(one(1), one(2)), committedOf(1, one(0))
	texts := []string{frameOf(number(3)), frameOf(matchOf(one(1))), frameOf(matchOf(one(2))), frameOf(number(3) + number(2))}
	for fuse := range 7 {
		d := diskOf(t, "ledger", ahead, "t.3", file)
		s := opened(t, d)
		want(t, d.Write("waits", 0, "x"), api.OK)
		want(t, d.Fuse(fuse), api.OK)
		wantCommit(t, s, 3, api.ErrDown)
		written := min(max(fuse-1, 0), 4)
		wantFiles(t, d, "waits", "x", "ledger", ahead+strings.Join(texts[:written], ""), "t.3", file)
		switch fuse {
		case 0:
			wantWaiting(t, d, 1)
		case 6:
			wantWaiting(t, d, 0)
		default:
			wantWaiting(t, d, written)
		}
	}
	d := diskOf(t, "ledger", ahead, "t.3", file)
	s := opened(t, d)
	want(t, d.Fuse(7), api.OK)
	wantCommit(t, s, 3, api.OK)
	wantFiles(t, d, "ledger", ahead+strings.Join(texts, ""))
}

// 23.3: a disk that is full of bytes, of files, of changes; what waits ahead is synced first, and is not in the way.
func TestCommitFull(t *testing.T) {
	file, texts := fileOf(one(1), one(2)), committedOf(3, one(1), one(2))
	for room := range len(texts) + 1 {
		d := diskOf(t, "t.3", file, "z", strings.Repeat("z", api.MaxBytes-len(file)-room))
		s := opened(t, d)
		if room == len(texts) {
			wantCommit(t, s, 3, api.OK)
			wantLedger(t, s, one(1), one(2))
			continue
		}
		wantCommit(t, s, 3, api.ErrFull)
		d.Crash(api.MaxWrites, -1)
		s = opened(t, d)
		wantLedger(t, s)
		wantState(t, s, 0, 0, 3)
		want(t, d.Remove("z"), api.OK)
		wantCommit(t, s, 3, api.OK)
		wantLedger(t, s, one(1), one(2))
	}
	d := diskOf(t, "t.3", file)
	for c := range api.MaxFiles - 1 {
		want(t, d.Write(nameOf(c+4), 0, ""), api.OK)
	}
	wantCommit(t, opened(t, d), 3, api.ErrFull)
	d = diskOf(t, "t.3", file)
	waitFor(t, d, api.MaxWrites)
	s := opened(t, d)
	wantCommit(t, s, 3, api.OK)
	wantWaiting(t, d, 1)
	wantLedger(t, s, one(1), one(2))
}

// 23.3: more texts than may wait are refused, and none of them counts.
func TestCommitManyWaiting(t *testing.T) {
	for _, n := range []int{maxHeld, api.MaxWrites - 2, api.MaxWrites - 1, api.MaxWrites} {
		d := diskOf(t, "t.1", fileOf(ones(n)...))
		s := opened(t, d)
		if n <= api.MaxWrites-2 {
			wantCommit(t, s, 1, api.OK)
			wantLedger(t, s, ones(n)...)
			continue
		}
		wantCommit(t, s, 1, api.ErrFull)
		wantLedger(t, s)
		d.Crash(api.MaxWrites, 0)
		s = opened(t, d)
		wantState(t, s, 0, 0, 1)
		wantLedger(t, s)
	}
}

// 23.3: a file that was removed behind the sink's back is not there any more.
func TestCommitRemoved(t *testing.T) {
	d := prepared(t, 1, 2)
	s := opened(t, d)
	want(t, d.Remove("t.1"), api.OK)
	wantSame(t, d, s, func() { wantCommit(t, s, 1, api.ErrTxn) })
	wantCommit(t, s, 2, api.OK)
	wantCommit(t, s, 1, api.OK)
	wantLedger(t, s, one(2))
}
