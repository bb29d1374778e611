package sink_test

import (
	"strings"
	"testing"

	"weaver/api"
	"weaver/disk"
)

// 23.2: matches that may be are held; their order is that of the calls, whatever they are, the same one twice, too.
func TestPut(t *testing.T) {
	d := disk.New()
	s := opened(t, d)
	l := []api.Match{two("b", 7), one(0), two("a", 3), one(0), longest(0), one(api.MaxSeq)}
	for i, m := range l {
		want(t, s.Put(m), api.OK)
		wantState(t, s, 0, i+1)
	}
	wantFiles(t, d)
	wantWaiting(t, d, 0)
	wantPrepare(t, s, 1, api.OK)
	wantFiles(t, d, "t.1", fileOf(l...))
	wantCommit(t, s, 1, api.OK)
	wantLedger(t, s, l...)
}

// wrongMatches are what chapter 2 refuses.
func wrongMatches() []api.Match {
	at := func(stages ...[]int) api.Match { return api.Match{Key: "k", Stages: stages} }
	long := longest(0)
	long.Stages = append(long.Stages, []int{api.MaxSeq})
	return []api.Match{
		{}, {Key: "k"}, {Stages: [][]int{{1}}}, {Key: "K", Stages: [][]int{{1}}}, {Key: "k ", Stages: [][]int{{1}}},
		{Key: strings.Repeat("k", api.MaxName+1), Stages: [][]int{{1}}}, at([]int{}), at([]int{1}, nil), at([]int{-1}), at([]int{api.MaxSeq + 1}),
		at([]int{1, 1}), at([]int{2, 1}), at([]int{1}, []int{1}), at([]int{2}, []int{1}), long,
		at([]int{1}, []int{2}, []int{3}, []int{4}, []int{5}, []int{6}, []int{7}, []int{8}, []int{9}),
	}
}

// 23.2, R1, R5: matches that may not be; with a transaction that is full, too.
func TestPutWrong(t *testing.T) {
	d := disk.New()
	s := opened(t, d)
	for _, n := range []int{0, 1, maxHeld - 1, maxHeld} {
		for s.Held() < n {
			put(t, s, one(n))
		}
		for _, m := range wrongMatches() {
			wantSame(t, d, s, func() { want(t, s.Put(m), api.ErrEvent) })
		}
	}
}

// 23.2: a transaction has 1000 matches at most; the next one, too.
func TestPutFull(t *testing.T) {
	d := disk.New()
	s := opened(t, d)
	for c := 1; c <= 2; c++ {
		put(t, s, ones(maxHeld)...)
		for range 2 {
			wantSame(t, d, s, func() { want(t, s.Put(one(0)), api.ErrLong) })
		}
		wantPrepare(t, s, c, api.OK)
		wantFilesOfFull(t, d, c)
		wantCommit(t, s, c, api.OK)
	}
	wantLedger(t, s, append(ones(maxHeld), ones(maxHeld)...)...)
}

func wantFilesOfFull(t *testing.T, d *disk.Disk, c int) {
	t.Helper()
	if b, e := d.Read(nameOf(c)); b != fileOf(ones(maxHeld)...) || e != api.OK {
		t.Fatalf("the file of %d has %d bytes, %d", c, len(b), e)
	}
}

// 23.2: the chapter's steps: the file is written, all is synced, another transaction is open.
func TestPrepare(t *testing.T) {
	d := disk.New()
	s := opened(t, d)
	want(t, d.Write("waits", 0, "x"), api.OK)
	prepare(t, s, 3, two("a", 1), one(9))
	wantFiles(t, d, "waits", "x", "t.3", fileOf(two("a", 1), one(9)))
	wantWaiting(t, d, 0)
	wantState(t, s, 0, 0, 3)
	wantLedger(t, s)
	prepare(t, s, 12)
	prepare(t, s, 1, one(1))
	prepare(t, s, api.MaxSeq, one(2))
	wantState(t, s, 0, 0, 1, 3, 12, api.MaxSeq)
	d.Crash(0, -1)
	wantFiles(t, d, "waits", "x", "t.1", fileOf(one(1)), "t.3", fileOf(two("a", 1), one(9)), "t.12", fileOf(), "t.1073741824", fileOf(one(2)))
	s = opened(t, d)
	wantState(t, s, 0, 0, 1, 3, 12, api.MaxSeq)
	wantLedger(t, s)
}

// 23.2: the bytes written out.
func TestPrepareBytes(t *testing.T) {
	d := disk.New()
	s := opened(t, d)
	put(t, s, api.Match{Key: "k", Stages: [][]int{{0}, {1, 200}}})
	wantPrepare(t, s, 7, api.OK)
	b, _ := d.Read("t.7")
	if body := "\x02\x20\x02\x02k\x01\x04\x01\x02\x01\x00\x01\x04\x01\x02\x01\x83\x10"; len(b) != 28 || b[10:] != body {
		t.Errorf("t.7: %x", b)
	}
	wantCommit(t, s, 7, api.OK)
	b, _ = d.Read("ledger")
	begin, end := frameOf("\x01\x0e"), frameOf("\x01\x0e\x01\x02")
	if b != begin+frameOf("\x02\x02k\x01\x04\x01\x02\x01\x00\x01\x04\x01\x02\x01\x83\x10")+end {
		t.Errorf("ledger: %x", b)
	}
}

// 23.2: one of the same number stands in the place of the one that was there, longer or shorter, corrupt ones, too.
func TestPrepareAgain(t *testing.T) {
	for _, old := range []string{"", "x", fileOf(one(1)), fileOf(ones(30)...), strings.Repeat("z", 5000)} {
		d := diskOf(t, "t.2", old, "t.3", old)
		s := opened(t, d)
		for _, l := range [][]api.Match{{one(4)}, ones(10), nil, {two("b", 3)}} {
			prepare(t, s, 2, l...)
			wantFiles(t, d, "t.2", fileOf(l...), "t.3", old)
			wantWaiting(t, d, 0)
			wantState(t, s, 0, 0, 2, 3)
		}
		wantCommit(t, s, 2, api.OK)
		wantLedger(t, s, two("b", 3))
	}
}

// 23.2: numbers that may not be, and those that are not above the last one; R1: ahead of what is too long.
func TestPrepareWrong(t *testing.T) {
	d := disk.New()
	s := opened(t, d)
	put(t, s, one(0))
	for _, c := range append(append([]int{0}, belows...), aboves...) {
		wantSame(t, d, s, func() { wantPrepare(t, s, c, api.ErrTxn) })
	}
	wantPrepare(t, s, 5, api.OK)
	wantCommit(t, s, 5, api.OK)
	put(t, s, one(1))
	for c := range 6 {
		wantSame(t, d, s, func() { wantPrepare(t, s, c, api.ErrTxn) })
	}
	for s.Held() < 100 {
		put(t, s, longest(1))
	}
	for _, c := range []int{-1, 0, 1, 5, api.MaxSeq + 1} {
		wantSame(t, d, s, func() { wantPrepare(t, s, c, api.ErrTxn) })
	}
	wantPrepare(t, s, 6, api.ErrLong)
	s = opened(t, d)
	wantPrepare(t, s, 5, api.ErrTxn)
	wantPrepare(t, s, 6, api.OK)
}

// padded is a match whose bytes in a list are as many as asked for, from 11 to 42.
func padded(bytes int) api.Match {
	return api.Match{Key: strings.Repeat("k", bytes-10), Stages: [][]int{{1}}}
}

// matchesOf are matches whose list has so many bytes.
func matchesOf(t *testing.T, bytes int) []api.Match {
	t.Helper()
	var l []api.Match
	rest, long := bytes, len(listOf(longest(0)))
	for ; rest > long+42; rest -= long {
		l = append(l, longest(0))
	}
	for ; rest > 42; rest -= 30 {
		l = append(l, padded(30))
	}
	l = append(l, padded(rest))
	if n := len(listOf(l...)); n != bytes {
		t.Fatalf("the list has %d bytes, not %d", n, bytes)
	}
	return l
}

// 23.2: a list of as many bytes as a frame takes.
func TestPrepareLongest(t *testing.T) {
	for _, bytes := range []int{api.MaxFrame - 1, api.MaxFrame} {
		d := diskOf(t, "t.1", "old")
		s := opened(t, d)
		l := matchesOf(t, bytes)
		prepare(t, s, 1, l...)
		wantFiles(t, d, "t.1", fileOf(l...))
		wantCommit(t, s, 1, api.OK)
		wantLedger(t, s, l...)
	}
}

// 23.2, R5: a list of more bytes is too long, and stays open; on a disk that is down, too.
func TestPrepareLong(t *testing.T) {
	for _, more := range []int{1, 2, 1000, api.MaxFrame, api.MaxBytes - api.MaxFrame, api.MaxBytes} {
		d := diskOf(t, "t.1", "old")
		s := opened(t, d)
		put(t, s, matchesOf(t, api.MaxFrame+more)...)
		for _, c := range []int{1, 2, api.MaxSeq} {
			wantSame(t, d, s, func() { wantPrepare(t, s, c, api.ErrLong) })
		}
		bringDown(t, d)
		wantPrepare(t, s, 1, api.ErrLong)
	}
}

// 23.2: more bytes than pack takes are too long as well; a sink goes on behind them, by a recovery.
func TestPrepareLonger(t *testing.T) {
	d := disk.New()
	s := opened(t, d)
	for range maxHeld {
		put(t, s, longest(0))
	}
	wantSame(t, d, s, func() { wantPrepare(t, s, 1, api.ErrLong) })
	wantRecover(t, s, 0, api.OK)
	prepare(t, s, 1, one(1))
	wantCommit(t, s, 1, api.OK)
	wantLedger(t, s, one(1))
}

// 23.2: what the disk refuses on the way: the steps ahead of it are made.
func TestPrepareRefused(t *testing.T) {
	old := fileOf(ones(3)...)
	for fuse, files := range [][]string{{"t.2", old}, {}, {"t.2", fileOf(one(5))}} {
		d := diskOf(t, "t.2", old)
		s := opened(t, d)
		put(t, s, one(5))
		want(t, d.Fuse(fuse), api.OK)
		wantPrepare(t, s, 2, api.ErrDown)
		wantFiles(t, d, files...)
		wantWaiting(t, d, fuse)
	}
	for fuse, files := range [][]string{{}, {"t.2", fileOf(one(5))}} {
		d := disk.New()
		s := opened(t, d)
		put(t, s, one(5))
		want(t, d.Fuse(fuse), api.OK)
		wantPrepare(t, s, 2, api.ErrDown)
		wantFiles(t, d, files...)
		wantWaiting(t, d, fuse)
	}
	d := disk.New()
	s := opened(t, d)
	put(t, s, one(5))
	want(t, d.Fuse(2), api.OK)
	wantPrepare(t, s, 2, api.OK)
}

// 23.2: a disk that is full: of changes that wait, of files, of bytes.
func TestPrepareFull(t *testing.T) {
	d := diskOf(t, "t.1", "old")
	s := opened(t, d)
	waitFor(t, d, api.MaxWrites)
	wantPrepare(t, s, 1, api.ErrFull)
	wantPrepare(t, s, 2, api.ErrFull)
	wantFiles(t, d, "t.1", "old", "z", "")
	wantWaiting(t, d, api.MaxWrites)

	d = diskOf(t, "t.1", "old")
	s = opened(t, d)
	waitFor(t, d, api.MaxWrites-1)
	wantPrepare(t, s, 1, api.ErrFull)
	wantFiles(t, d, "z", "")

	d = disk.New()
	for c := range api.MaxFiles {
		want(t, d.Write(nameOf(c+1), 0, ""), api.OK)
	}
	s = opened(t, d)
	wantPrepare(t, s, 3, api.OK)
	wantPrepare(t, s, api.MaxFiles+1, api.ErrFull)

	room := len(fileOf(one(1)))
	d = diskOf(t, "z", strings.Repeat("z", api.MaxBytes-room))
	s = opened(t, d)
	prepare(t, s, 1, one(1))
	prepare(t, s, 1, one(2))
	wantPrepare(t, s, 2, api.ErrFull)
	put(t, s, one(0), one(3))
	wantPrepare(t, s, 1, api.ErrFull)
}
