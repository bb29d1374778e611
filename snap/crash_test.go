package snap_test

import (
	"strconv"
	"testing"

	"weaver/api"
	"weaver/disk"
	"weaver/snap"
)

// shotOf is what a task of a snapshot is put, of another length each.
func shotOf(c, task int) string {
	return "of " + strconv.Itoa(c) + bytesOf(task*3%7) + strconv.Itoa(task)
}

// shoot puts a snapshot's tasks, some of them twice, and commits it, until something is refused.
func shoot(d *disk.Disk, c, tasks int) api.Errno {
	for task := range tasks {
		if task%2 == 1 {
			if e := snap.Put(d, c, task, "an earlier one, which is longer"); e != api.OK {
				return e
			}
		}
		if e := snap.Put(d, c, task, shotOf(c, task)); e != api.OK {
			return e
		}
	}
	return snap.Commit(d, c, tasks, strconv.Itoa(c))
}

// wantWhole asks for a snapshot and all its tasks' bytes.
func wantWhole(t *testing.T, d *disk.Disk, c, tasks int) {
	t.Helper()
	wantLatest(t, d, c, tasks, strconv.Itoa(c), api.OK)
	for task := range tasks {
		wantRead(t, d, c, task, shotOf(c, task), api.OK)
	}
}

// before is a disk on which a snapshot counts (none, if tasks is 0), with what an attempt that crashed may have left.
func before(t *testing.T, tasks int, left ...string) *disk.Disk {
	t.Helper()
	d := diskOf(t, left...)
	if tasks > 0 {
		want(t, shoot(d, 1, tasks), api.OK)
	}
	want(t, d.Sync(), api.OK)
	return d
}

// 22.4: a crash at each step of Put and Commit, whatever is kept and torn: the snapshot ahead is whole, or the new one is; and the next one can be made.
func TestCrashAnywhere(t *testing.T) {
	longest := len(manifestOf(2, maxTasks, "22"))
	for _, left := range [][]string{{}, {"s.2.0", "torn", "s.2.1", frameOf("old")}, {"m.new", "torn"}} {
		for _, old := range []int{0, 1, 3} {
			for _, tasks := range []int{1, 2, 3} {
				for fuse := 0; ; fuse++ {
					kept := 0
					for keep := 0; keep <= 14; keep++ {
						for torn := -1; torn <= longest+20; torn++ {
							d := before(t, old, left...)
							want(t, d.Fuse(fuse), api.OK)
							e := shoot(d, 2, tasks)
							kept = d.Waiting()
							d.Crash(keep, torn)
							wantOneOf(t, d, old, tasks, e)
							if e == api.OK {
								break
							}
						}
						if keep > kept {
							break
						}
					}
					d := before(t, old, left...)
					want(t, d.Fuse(fuse), api.OK)
					if shoot(d, 2, tasks) == api.OK {
						break
					}
				}
			}
		}
	}
}

// wantOneOf asks for the snapshot ahead or the new one, the new one if it was answered, and for the one behind these.
func wantOneOf(t *testing.T, d *disk.Disk, old, tasks int, told api.Errno) {
	t.Helper()
	c, _, _, e := snap.Latest(d)
	switch {
	case c == 2:
		wantWhole(t, d, 2, tasks)
	case told == api.OK:
		t.Fatalf("Latest() = %d, %d behind a commit", c, e)
	case old > 0:
		wantWhole(t, d, 1, old)
	default:
		wantNoLatest(t, d, api.ErrNone)
	}
	n := max(c, 2) + 1
	if e := shoot(d, n, 2); e != api.OK {
		t.Fatalf("behind the crash: %d", e)
	}
	d.Crash(0, -1)
	wantWhole(t, d, n, 2)
	if _, e := snap.Collect(d); e != api.OK {
		t.Fatalf("Collect() = %d", e)
	}
	wantFiles(t, d, "m", manifestOf(n, 2, strconv.Itoa(n)), fileOf(n, 0), frameOf(shotOf(n, 0)), fileOf(n, 1), frameOf(shotOf(n, 1)))
}

// 22.4: the crash comes when the disk is not down: what waits behind each call.
func TestCrashBetweenCalls(t *testing.T) {
	for calls := range 5 {
		for keep := -1; keep < 8; keep++ {
			for torn := -1; torn < 40; torn++ {
				d := before(t, 2)
				for task := range min(calls, 3) {
					wantPut(t, d, 2, task, "an earlier one, which is longer", api.OK)
					wantPut(t, d, 2, task, shotOf(2, task), api.OK)
				}
				told := api.ErrSnap
				if calls == 4 {
					told = snap.Commit(d, 2, 3, "2")
					want(t, told, api.OK)
				}
				d.Crash(keep, torn)
				wantOneOf(t, d, 2, 3, told)
			}
		}
	}
}

// 22.4: a crash of a task's file that was torn: it does not count until it is put once more.
func TestTornFileIsNotCommitted(t *testing.T) {
	whole := frameOf(shotOf(2, 1))
	for torn := -1; torn <= len(whole)+1; torn++ {
		d := before(t, 1)
		wantPut(t, d, 2, 0, shotOf(2, 0), api.OK)
		wantPut(t, d, 2, 1, shotOf(2, 1), api.OK)
		d.Crash(1, torn)
		if torn >= len(whole) {
			wantCommit(t, d, 2, 2, "2", api.OK)
			wantWhole(t, d, 2, 2)
			continue
		}
		e := api.ErrCorrupt
		if torn < 0 {
			e = api.ErrNone
		}
		wantRead(t, d, 2, 1, "", e)
		wantCommit(t, d, 2, 2, "2", api.ErrSnap)
		wantWhole(t, d, 1, 1)
		wantPut(t, d, 2, 1, shotOf(2, 1), api.OK)
		wantCommit(t, d, 2, 2, "2", api.OK)
		wantWhole(t, d, 2, 2)
	}
}
