package sink_test

import (
	"strings"
	"testing"

	"weaver/api"
	"weaver/disk"
)

// 23.3: what is pending up to the number is committed, by numbers; all other files go; all is synced.
func TestRecover(t *testing.T) {
	for _, x := range []struct {
		c, last int
		matches []api.Match
	}{
		{0, 0, nil}, {1, 0, nil}, {2, 2, []api.Match{one(2)}}, {8, 2, []api.Match{one(2)}}, {9, 9, []api.Match{one(2), one(9)}},
		{10, 10, []api.Match{one(2), one(9), one(10)}}, {99, 10, []api.Match{one(2), one(9), one(10)}},
		{100, 100, []api.Match{one(2), one(9), one(10), one(100)}}, {api.MaxSeq, 100, []api.Match{one(2), one(9), one(10), one(100)}},
	} {
		d := prepared(t, 100, 2, 10, 9)
		s := opened(t, d)
		put(t, s, one(50), one(51))
		want(t, d.Write("waits", 0, "x"), api.OK)
		wantRecover(t, s, x.c, api.OK)
		wantState(t, s, x.last, 0)
		wantLedger(t, s, x.matches...)
		wantWaiting(t, d, 0)
		files := []string{"waits", "x"}
		if x.last > 0 {
			ledger := ""
			for _, m := range x.matches {
				ledger += committedOf(m.Stages[0][0], m)
			}
			files = append(files, "ledger", ledger)
		}
		wantFiles(t, d, files...)
		wantRecover(t, s, x.last, api.OK)
		wantRecover(t, s, api.MaxSeq, api.OK)
		wantState(t, s, x.last, 0)
		wantFiles(t, d, files...)
		prepare(t, s, x.last+1, one(7))
		wantCommit(t, s, x.last+1, api.OK)
		wantLedger(t, s, append(x.matches, one(7))...)
	}
}

// 23.3: transactions without a match, and with many.
func TestRecoverSizes(t *testing.T) {
	d := disk.New()
	s := opened(t, d)
	prepare(t, s, 1)
	prepare(t, s, 2, ones(700)...)
	prepare(t, s, 3)
	prepare(t, s, 4, ones(maxHeld)...)
	wantRecover(t, opened(t, d), 4, api.OK)
	s = opened(t, d)
	wantLedger(t, s, append(ones(700), ones(maxHeld)...)...)
	wantState(t, s, 4, 0)
}

// 23.3: a number below the last one, or above all that may be: nothing has changed.
func TestRecoverWrong(t *testing.T) {
	d := prepared(t, 3, 5, 8)
	s := opened(t, d)
	put(t, s, one(9))
	for _, last := range []int{0, 3, 5} {
		if last > 0 {
			wantCommit(t, s, last, api.OK)
		}
		for _, c := range append(append([]int{last - 1}, belows...), aboves...) {
			wantSame(t, d, s, func() { wantRecover(t, s, c, api.ErrTxn) })
		}
		for c := range last {
			wantSame(t, d, s, func() { wantRecover(t, s, c, api.ErrTxn) })
		}
	}
	bringDown(t, d)
	wantRecover(t, s, 4, api.ErrTxn)
}

// 23.3: files that are left are removed whatever their number and their bytes: committed ones, later ones, those that no transaction has; others stay.
func TestRecoverRemoves(t *testing.T) {
	gone := []string{"t.0", "t.1", "t.2", "t.3", "t.4", "t.10", "t.1073741824", "t.1073741825", "t.4294967298", "t.9223372036854775808", "t." + strings.Repeat("9", 30)}
	others := []string{"t", "t.", "t.00", "t.01", "t.a", "t.1a", "t.a1", "t.1.", "t..1", "t.1.2", "tt.1", "at.1", "1", "t1", "u.1", "s.1.0", "m"}
	d := diskOf(t, "ledger", committedOf(2, one(0)))
	for _, name := range append(append([]string{}, gone...), others...) {
		want(t, d.Write(name, 0, "whatever"), api.OK)
	}
	s := opened(t, d)
	wantRecover(t, s, 2, api.OK)
	files := []string{"ledger", committedOf(2, one(0))}
	for _, name := range others {
		files = append(files, name, "whatever")
	}
	wantFiles(t, d, files...)
	wantWaiting(t, d, 0)
	wantState(t, s, 2, 0)
	wantLedger(t, s, one(0))
}

// 23.3: numbers that no transaction has are removed, not committed.
func TestRecoverCommitsNoStrangeNumber(t *testing.T) {
	d := diskOf(t, "t.0", fileOf(one(0)), "t.01", fileOf(one(1)), "t.3", fileOf(one(3)), "t.1073741825", fileOf(one(2)))
	s := opened(t, d)
	wantRecover(t, s, api.MaxSeq, api.OK)
	wantFiles(t, d, "ledger", committedOf(3, one(3)), "t.01", fileOf(one(1)))
	wantState(t, s, 3, 0)
}

// 23.3: R6's numbers are all that is removed, of all short names.
func TestRecoverShortNames(t *testing.T) {
	const letters = "019.t"
	var all func(name string)
	all = func(name string) {
		if name != "" {
			d := diskOf(t, name, "")
			wantRecover(t, opened(t, d), 0, api.OK)
			n, _ := strings.CutPrefix(name, "t.")
			isOurs := n != name && n != "" && !strings.ContainsAny(n, ".t") && (n == "0" || n[0] != '0')
			if left := len(d.Names()); (left == 0) != isOurs {
				t.Fatalf("%s: left are %q", name, d.Names())
			}
		}
		for i := 0; i < len(letters) && len(name) < 5; i++ {
			all(name + letters[i:i+1])
		}
	}
	all("")
}

// 23.3, R5: a corrupt file up to the number refuses all, whatever stands ahead of it; one above it is removed.
func TestRecoverCorrupt(t *testing.T) {
	for _, b := range wrongFiles() {
		d := diskOf(t, "ledger", committedOf(1, one(0)), "t.1", "x", "t.2", fileOf(one(2)), "t.3", b, "t.4", fileOf(one(4)))
		s := opened(t, d)
		put(t, s, one(8))
		for _, c := range []int{3, 4, api.MaxSeq} {
			wantSame(t, d, s, func() { wantRecover(t, s, c, api.ErrCorrupt) })
		}
		wantRecover(t, s, 2, api.OK)
		wantLedger(t, s, one(0), one(2))
		wantFiles(t, d, "ledger", committedOf(1, one(0))+committedOf(2, one(2)))
		wantState(t, s, 2, 0)
	}
}

// 23.3: what the disk refuses on the way, call by call, in the chapter's order.
func TestRecoverRefused(t *testing.T) {
	ledger := frameOf(number(1)) + frameOf(matchOf(one(1))) + frameOf(number(1)+number(1))
	after := []struct {
		ledger  int // how many texts
		left    []string
		waiting int
	}{
		{0, []string{"t.0", "t.1", "t.10", "t.2"}, 0}, // the sync
		{0, []string{"t.0", "t.1", "t.10", "t.2"}, 0}, // the three texts
		{1, []string{"t.0", "t.1", "t.10", "t.2"}, 1},
		{2, []string{"t.0", "t.1", "t.10", "t.2"}, 2},
		{3, []string{"t.0", "t.1", "t.10", "t.2"}, 3}, // their sync
		{3, []string{"t.0", "t.1", "t.10", "t.2"}, 0}, // the file
		{3, []string{"t.0", "t.10", "t.2"}, 1},        // the others
		{3, []string{"t.10", "t.2"}, 2},
		{3, []string{"t.2"}, 3},
		{3, nil, 4}, // the last sync
	}
	for fuse, x := range after {
		d := diskOf(t, "t.0", "", "t.1", fileOf(one(1)), "t.2", "", "t.10", "")
		s := opened(t, d)
		want(t, d.Fuse(fuse), api.OK)
		wantRecover(t, s, 1, api.ErrDown)
		wantWaiting(t, d, x.waiting)
		var files []string
		at := 0
		for range x.ledger {
			at += 10 + int(ledger[at+5])
		}
		if at > 0 {
			files = append(files, "ledger", ledger[:at])
		}
		for _, name := range x.left {
			b := ""
			if name == "t.1" {
				b = fileOf(one(1))
			}
			files = append(files, name, b)
		}
		wantFiles(t, d, files...)
	}
	d := diskOf(t, "t.0", "", "t.1", fileOf(one(1)), "t.2", "", "t.10", "")
	s := opened(t, d)
	want(t, d.Fuse(len(after)), api.OK)
	wantRecover(t, s, 1, api.OK)
	d = disk.New()
	s = opened(t, d)
	bringDown(t, d)
	wantRecover(t, s, 0, api.ErrDown)
}

// 23.3: as many changes wait as may be.
func TestRecoverFull(t *testing.T) {
	d := diskOf(t, "t.1", fileOf(one(1)), "t.2", "")
	s := opened(t, d)
	waitFor(t, d, api.MaxWrites)
	wantRecover(t, s, 0, api.ErrFull)
	d = diskOf(t, "t.1", fileOf(one(1)), "t.2", "")
	s = opened(t, d)
	waitFor(t, d, api.MaxWrites)
	wantRecover(t, s, 1, api.OK)
	wantFiles(t, d, "ledger", committedOf(1, one(1)), "z", "")
	d = diskOf(t, "t.1", fileOf(one(1)), "z", strings.Repeat("z", api.MaxBytes-len(fileOf(one(1)))-20))
	wantRecover(t, opened(t, d), 1, api.ErrFull)
}
