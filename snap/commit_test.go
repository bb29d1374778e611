package snap_test

import (
	"strconv"
	"testing"

	"weaver/api"
	"weaver/disk"
)

// 22.2: the manifest is the frame of the list, safe, and alone; the tasks' files are safe, too.
func TestCommitWritesManifest(t *testing.T) {
	for _, c := range []int{1, 63, 64, 8192, api.MaxSeq} {
		for _, s := range []string{"", "x", "\x00\xff", frameOf("inner"), bytesOf(maxText)} {
			d := disk.New()
			wantPut(t, d, c, 0, "a", api.OK)
			wantPut(t, d, c, 1, "b", api.OK)
			wantCommit(t, d, c, 2, s, api.OK)
			wantWaiting(t, d, 0)
			d.Crash(0, -1)
			wantFiles(t, d, "m", manifestOf(c, 2, s), fileOf(c, 0), frameOf("a"), fileOf(c, 1), frameOf("b"))
			wantLatest(t, d, c, 2, s, api.OK)
		}
	}
}

// 22.2: the steps, one by one, as the fuse lets them through: sync, write, sync, rename, sync.
func TestCommitSteps(t *testing.T) {
	m, shot := manifestOf(1, 1, "x"), frameOf("a")
	for fuse, step := range []struct {
		files   []string
		waiting int
	}{
		{[]string{"s.1.0", shot}, 1},
		{[]string{"s.1.0", shot}, 0},
		{[]string{"s.1.0", shot, "m.new", m}, 1},
		{[]string{"s.1.0", shot, "m.new", m}, 0},
		{[]string{"s.1.0", shot, "m", m}, 1},
		{[]string{"s.1.0", shot, "m", m}, 0},
	} {
		d, e := disk.New(), api.ErrDown
		if fuse == 5 {
			e = api.OK
		}
		wantPut(t, d, 1, 0, "a", api.OK)
		want(t, d.Fuse(fuse), api.OK)
		wantCommit(t, d, 1, 1, "x", e)
		wantFiles(t, d, step.files...)
		wantWaiting(t, d, step.waiting)
		want(t, d.Sync(), api.ErrDown)
	}
}

// 22.2: a file m.new that is there is removed ahead of the write: one step more.
func TestCommitRemovesNew(t *testing.T) {
	for _, old := range []string{"", "x", bytesOf(500), manifestOf(9, 9, "old")} {
		for fuse := range 7 {
			d, e := diskOf(t, "m.new", old, "s.1.0", frameOf("a")), api.ErrDown
			if fuse == 6 {
				e = api.OK
			}
			want(t, d.Fuse(fuse), api.OK)
			wantCommit(t, d, 1, 1, "x", e)
			files := []string{"s.1.0", frameOf("a")}
			switch fuse {
			case 0, 1:
				files = append(files, "m.new", old)
			case 3, 4:
				files = append(files, "m.new", manifestOf(1, 1, "x"))
			case 5, 6:
				files = append(files, "m", manifestOf(1, 1, "x"))
			}
			wantFiles(t, d, files...)
		}
	}
}

// 22.2: a snapshot takes the place of the one ahead, whose files stay until they are collected.
func TestCommitAgain(t *testing.T) {
	d := committed(t, 1, "a", "b")
	commit(t, d, 4, "c")
	wantLatest(t, d, 4, 1, "4", api.OK)
	wantRead(t, d, 1, 0, "a", api.OK)
	wantRead(t, d, 1, 1, "b", api.OK)
	wantRead(t, d, 4, 0, "c", api.OK)
	commit(t, d, api.MaxSeq, "d", "e", "f")
	wantLatest(t, d, api.MaxSeq, 3, strconv.Itoa(api.MaxSeq), api.OK)
	wantRead(t, d, 4, 0, "c", api.OK)
	wantSame(t, d, func() { wantCommit(t, d, api.MaxSeq, 3, "", api.ErrSnap) })
}

// 22.2: as many tasks as may be, the last of them missing, and there; tasks behind them do not matter.
func TestCommitAllTasks(t *testing.T) {
	for tasks := 1; tasks <= maxTasks; tasks++ {
		d := disk.New()
		for task := tasks - 2; task >= 0; task-- {
			wantPut(t, d, 7, task, strconv.Itoa(task), api.OK)
		}
		wantSame(t, d, func() { wantCommit(t, d, 7, tasks, "x", api.ErrSnap) })
		wantNoLatest(t, d, api.ErrNone)
		wantPut(t, d, 7, tasks-1, "last", api.OK)
		if tasks < maxTasks {
			want(t, d.Write(fileOf(7, tasks), 0, "no frame"), api.OK)
		}
		wantCommit(t, d, 7, tasks, "x", api.OK)
		wantLatest(t, d, 7, tasks, "x", api.OK)
	}
}

// 22.2: each one of the tasks is asked for, that it is there, and just one frame.
func TestCommitWantsEachTask(t *testing.T) {
	for task := range 4 {
		for _, wrong := range []string{"", "W", frameOf("b") + "x", frameOf("b") + frameOf("b"), frameOf("b")[1:], frameOf("b")[:10], "WF\x00\x00\x00\x01\x00\x00\x00\x00b"} {
			d := disk.New()
			for k := range 4 {
				wantPut(t, d, 2, k, "b", api.OK)
				wantPut(t, d, 1, k, "other", api.OK)
			}
			want(t, d.Remove(fileOf(2, task)), api.OK)
			wantSame(t, d, func() { wantCommit(t, d, 2, 4, "x", api.ErrSnap) })
			want(t, d.Write(fileOf(2, task), 0, wrong), api.OK)
			wantSame(t, d, func() { wantCommit(t, d, 2, 4, "x", api.ErrSnap) })
			wantPut(t, d, 2, task, "b", api.OK)
			wantCommit(t, d, 2, 4, "x", api.OK)
		}
	}
}

// 22.2, R1, P1: numbers that may not be, ahead of a text that is too long, and that ahead of what the disk holds.
func TestCommitRange(t *testing.T) {
	for _, d := range []*disk.Disk{disk.New(), committed(t, 5, "a"), diskOf(t, "m", "corrupt", "s.6.0", frameOf("a"))} {
		for _, s := range []string{"", bytesOf(maxText + 1)} {
			wantSame(t, d, func() {
				for _, c := range append(append([]int{0}, belows...), aboves...) {
					wantCommit(t, d, c, 1, s, api.ErrRange)
					wantCommit(t, d, c, 0, s, api.ErrRange)
				}
				for _, tasks := range append(append([]int{0, maxTasks + 1, maxTasks + 2}, belows...), aboves...) {
					wantCommit(t, d, 6, tasks, s, api.ErrRange)
					wantCommit(t, d, 0, tasks, s, api.ErrRange)
				}
			})
		}
		wantSame(t, d, func() {
			for _, n := range []int{maxText + 1, api.MaxFrame, api.MaxBytes + 1, 1 << 22} {
				wantCommit(t, d, 1, 1, bytesOf(n), api.ErrLong)
			}
		})
	}
}

// 22.2: what Latest refuses comes ahead of ErrSnap, but that there is none.
func TestCommitCorrupt(t *testing.T) {
	d := diskOf(t, "m", manifestOf(5, 1, "")[1:], "s.6.0", frameOf("a"))
	wantSame(t, d, func() {
		wantCommit(t, d, 1, 1, "", api.ErrCorrupt)
		wantCommit(t, d, 6, 1, "", api.ErrCorrupt)
		wantCommit(t, d, 6, 2, "", api.ErrCorrupt)
	})
	want(t, d.Remove("m"), api.OK)
	wantCommit(t, d, 6, 2, "", api.ErrSnap)
	wantCommit(t, d, 6, 1, "", api.OK)
}

// 22.2: only numbers above the one that counts are committed, though all tasks' files are there.
func TestCommitNotAbove(t *testing.T) {
	d := disk.New()
	for c := 1; c <= 6; c++ {
		wantPut(t, d, c, 0, "a", api.OK)
	}
	wantCommit(t, d, 5, 1, "x", api.OK)
	wantSame(t, d, func() {
		for c := 1; c <= 5; c++ {
			wantCommit(t, d, c, 1, "y", api.ErrSnap)
		}
	})
	wantLatest(t, d, 5, 1, "x", api.OK)
	wantCommit(t, d, 6, 1, "y", api.OK)
	wantLatest(t, d, 6, 1, "y", api.OK)
}

// 22.2: a disk without room for the manifest, of bytes or of files, keeps the one that counts; m.new takes no room, for it is removed.
func TestCommitFull(t *testing.T) {
	size := len(manifestOf(2, 1, "x"))
	for _, lacks := range []int{0, 1} {
		d := committed(t, 1, "a")
		wantPut(t, d, 2, 0, "b", api.OK)
		want(t, d.Write("m.new", 0, "some"), api.OK)
		used := 4
		for _, b := range filesOf(d) {
			used += len(b)
		}
		want(t, d.Write("z", 0, bytesOf(api.MaxBytes-(used-8)-size+lacks)), api.OK)
		if lacks == 1 {
			wantCommit(t, d, 2, 1, "x", api.ErrFull)
			wantLatest(t, d, 1, 1, "1", api.OK)
			continue
		}
		wantCommit(t, d, 2, 1, "x", api.OK)
		wantLatest(t, d, 2, 1, "x", api.OK)
	}
}

// 22.2: the file m.new takes a place ahead of the rename, even if m is there.
func TestCommitFullOfFiles(t *testing.T) {
	d := committed(t, 1, "a")
	wantPut(t, d, 2, 0, "b", api.OK)
	for i := len(d.Names()); i < api.MaxFiles; i++ {
		want(t, d.Write("f"+strconv.Itoa(i), 0, ""), api.OK)
	}
	wantCommit(t, d, 2, 1, "x", api.ErrFull)
	wantLatest(t, d, 1, 1, "1", api.OK)
	want(t, d.Rename("f9", "m.new"), api.OK)
	wantCommit(t, d, 2, 1, "x", api.OK)
	wantLatest(t, d, 2, 1, "x", api.OK)
	wantWaiting(t, d, 0)
}

// 22.2: as many changes as may wait do not matter, for all is synced first.
func TestCommitFullOfChanges(t *testing.T) {
	d := disk.New()
	wantPut(t, d, 1, 0, "a", api.OK)
	waitFor(t, d, api.MaxWrites)
	wantCommit(t, d, 1, 1, "x", api.OK)
	wantLatest(t, d, 1, 1, "x", api.OK)
}

// 22.2: a disk that is down is refused behind all else that is wrong.
func TestCommitDown(t *testing.T) {
	d := committed(t, 1, "a")
	wantPut(t, d, 2, 0, "b", api.OK)
	bringDown(t, d)
	wantSame(t, d, func() {
		wantCommit(t, d, 2, 1, "x", api.ErrDown)
		wantCommit(t, d, 2, 2, "x", api.ErrSnap)
		wantCommit(t, d, 1, 1, "x", api.ErrSnap)
		wantCommit(t, d, 1, 1, bytesOf(maxText+1), api.ErrLong)
		wantCommit(t, d, 1, 0, "x", api.ErrRange)
		wantCollect(t, d, 0, api.ErrDown)
	})
	wantLatest(t, d, 1, 1, "1", api.OK)
	wantRead(t, d, 2, 0, "b", api.OK)
}
