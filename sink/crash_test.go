package sink_test

import (
	"testing"

	"weaver/api"
	"weaver/disk"
	"weaver/sink"
)

// shots are a transaction's matches: none of each fourth one.
func shots(c int) []api.Match {
	var l []api.Match
	for i := range c % 4 {
		l = append(l, two("k", 1000*c+i))
	}
	return l
}

// upTo are the matches of all transactions up to a number.
func upTo(c int) []api.Match {
	var l []api.Match
	for n := 1; n <= c; n++ {
		l = append(l, shots(n)...)
	}
	return l
}

// step is a call that a run makes: the transaction's matches are put ahead of a Prepare.
type step struct {
	kind byte
	c    int
}

// takes answers what was refused, if something was.
func (x step) takes(s *sink.Sink) api.Errno {
	switch x.kind {
	case 'c':
		return s.Commit(x.c)
	case 'r':
		return s.Recover(x.c)
	}
	for _, m := range shots(x.c) {
		if e := s.Put(m); e != api.OK {
			return e
		}
	}
	return s.Prepare(x.c)
}

// runs are what a coordinator asks of a sink that was opened on the disk of started.
func runs() [][]step {
	return [][]step{
		{{'p', 3}, {'c', 2}, {'c', 3}},
		{{'c', 2}, {'p', 3}, {'p', 4}, {'c', 3}},
		{{'p', 3}, {'r', 2}, {'p', 3}},
		{{'p', 3}, {'p', 4}, {'r', 4}, {'p', 5}, {'c', 5}},
		{{'r', 1}, {'p', 2}, {'r', 2}},
	}
}

// started is a disk on which 1 is committed and 2 is prepared.
func started(t *testing.T) *disk.Disk {
	t.Helper()
	d := disk.New()
	s := opened(t, d)
	for c := 1; c <= 2; c++ {
		prepare(t, s, c, shots(c)...)
	}
	wantCommit(t, s, 1, api.OK)
	want(t, d.Sync(), api.OK)
	return d
}

// after tells of a run that was cut short: up to which number what is prepared is safe, and up to which it may be committed.
type after struct {
	safe, begun int
	whole       bool
}

// runTo runs until the fuse is burnt.
func runTo(t *testing.T, d *disk.Disk, run []step, fuse int) after {
	t.Helper()
	s := opened(t, d)
	want(t, d.Fuse(fuse), api.OK)
	a := after{2, 1, true}
	for _, x := range run {
		e := x.takes(s)
		if e != api.OK && e != api.ErrDown {
			t.Fatalf("%c %d = %d", x.kind, x.c, e)
		}
		if x.kind == 'r' {
			a.safe = x.c
		}
		if x.kind != 'p' {
			a.begun = x.c
		}
		if e == api.ErrDown {
			a.whole = false
			return a
		}
		if x.kind == 'p' {
			a.safe = x.c
		}
	}
	return a
}

// crashes calls what is to be tried at each fuse, whatever is kept, and torn, until the fuse is long enough.
func crashes(t *testing.T, keeps, torns []int, try func(fuse, keep, torn int) bool) {
	t.Helper()
	for fuse := 0; ; fuse++ {
		whole := false
		for _, keep := range keeps {
			for _, torn := range torns {
				whole = try(fuse, keep, torn)
			}
		}
		if whole {
			return
		}
	}
}

// 23.4: a crash anywhere in what a coordinator asks, whatever is kept and torn; then a recovery of each number that it may ask for has just the transactions up to it.
func TestCrashAnywhere(t *testing.T) {
	keeps, torns := []int{0, 1, 2, 3, 5, 99}, []int{-1, 0, 1, 9, 11, 12, 30, 99}
	for _, run := range runs() {
		for ask := 1; ask <= 5; ask++ {
			crashes(t, keeps, torns, func(fuse, keep, torn int) bool {
				d := started(t)
				a := runTo(t, d, run, fuse)
				d.Crash(keep, torn)
				if ask <= a.safe {
					wantRecovered(t, d, a, ask)
				}
				return a.whole
			})
		}
	}
}

// wantRecovered recovers a number, and once more behind another crash; what was committed already is refused, and stays.
func wantRecovered(t *testing.T, d *disk.Disk, a after, ask int) {
	t.Helper()
	s := opened(t, d)
	if last := s.Last(); ask < last {
		if last > a.begun {
			t.Fatalf("%d is committed, asked for was %d", last, a.begun)
		}
		wantRecover(t, s, ask, api.ErrTxn)
		ask = last
	}
	for range 2 {
		wantRecover(t, s, ask, api.OK)
		wantLedger(t, s, upTo(ask)...)
		wantState(t, s, ask, 0)
		d.Crash(0, -1)
		s = opened(t, d)
	}
	prepare(t, s, ask+1, shots(ask+1)...)
	wantCommit(t, s, ask+1, api.OK)
	wantLedger(t, s, upTo(ask+1)...)
}

// 23.4: a crash anywhere in the recovery behind a crash, and again in the next one.
func TestCrashInRecovery(t *testing.T) {
	keeps, torns := []int{0, 1, 3, 99}, []int{-1, 0, 11, 17, 99}
	for ask := 2; ask <= 4; ask++ {
		crashes(t, keeps, torns, func(fuse, keep, torn int) bool {
			d := started(t)
			s := opened(t, d)
			prepare(t, s, 3, shots(3)...)
			prepare(t, s, 4, shots(4)...)
			e := api.OK
			for n := range 3 {
				want(t, d.Fuse(fuse+n), api.OK)
				e = s.Recover(ask)
				d.Crash(keep, torn)
				s = opened(t, d)
			}
			wantRecovered(t, d, after{4, ask, true}, ask)
			return e == api.OK
		})
	}
}

// 23.4: the cut of a part of a transaction is crashed itself.
func TestCrashInOpen(t *testing.T) {
	whole := committedOf(1, shots(1)...)
	next := committedOf(2, shots(2)...)
	for n := range len(next) {
		for fuse := range 4 {
			for keep := range 3 {
				for _, torn := range []int{-1, 0, 1} {
					d := diskOf(t, "ledger", whole+next[:n], "t.2", fileOf(shots(2)...))
					want(t, d.Fuse(fuse), api.OK)
					s, e := sink.Open(d)
					if e == api.OK {
						wantLedger(t, s, shots(1)...)
					}
					d.Crash(keep, torn)
					wantRecovered(t, d, after{2, 2, true}, 2)
				}
			}
		}
	}
}

// 23.4: crashes between the calls, when the disk is not down: what was answered OK is there.
func TestCrashBetweenCalls(t *testing.T) {
	for _, run := range runs() {
		for n := range len(run) + 1 {
			for keep := -1; keep < 4; keep++ {
				for torn := -1; torn < 3; torn++ {
					d := started(t)
					a := runTo(t, d, run[:n], 1<<20)
					d.Crash(keep, torn)
					s := opened(t, d)
					if s.Last() != a.begun {
						t.Fatalf("Last() = %d, want %d", s.Last(), a.begun)
					}
					wantLedger(t, s, upTo(a.begun)...)
					wantRecovered(t, d, a, a.safe)
				}
			}
		}
	}
}

// 23.4: a transaction whose Prepare was cut short is there whole, or not, or corrupt; a recovery of the number ahead leaves it out.
func TestTornFileIsLeftOut(t *testing.T) {
	whole := fileOf(shots(3)...)
	for keep := range 3 {
		for torn := -1; torn <= len(whole)+1; torn++ {
			for _, old := range []string{"", "old"} {
				d := started(t)
				if old != "" {
					want(t, d.Write("t.3", 0, old), api.OK)
					want(t, d.Sync(), api.OK)
				}
				changes := 1 + len(old)/3
				s := opened(t, d)
				put(t, s, shots(3)...)
				want(t, d.Fuse(changes), api.OK)
				wantPrepare(t, s, 3, api.ErrDown)
				d.Crash(keep, torn)
				s = opened(t, d)
				switch b, e := d.Read("t.3"); {
				case e == api.OK && b != whole:
					wantRecover(t, s, 3, api.ErrCorrupt)
				case keep >= changes && b != whole:
					t.Fatalf("t.3 is %q", b)
				}
				wantRecovered(t, d, after{2, 2, true}, 2)
			}
		}
	}
}

// The chapter's example.
func TestExample(t *testing.T) {
	for _, recovered := range []int{1, 2} {
		d := disk.New()
		s := opened(t, d)
		m, n := one(1), one(2)
		prepare(t, s, 1, m)
		prepare(t, s, 2, n)
		wantCommit(t, s, 1, api.OK)
		wantLedger(t, s, m)
		wantState(t, s, 1, 0, 2)
		d.Crash(0, -1)
		s = opened(t, d)
		wantRecover(t, s, recovered, api.OK)
		if recovered == 2 {
			wantLedger(t, s, m, n)
			continue
		}
		wantLedger(t, s, m)
		wantCommit(t, s, 2, api.ErrTxn)
	}
}
