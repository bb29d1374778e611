package snap_test

import (
	"strconv"
	"testing"

	"weaver/api"
	"weaver/disk"
	"weaver/snap"
)

// The chapter's example.
func TestExample(t *testing.T) {
	d := disk.New()
	wantPut(t, d, 1, 0, "a", api.OK)
	wantPut(t, d, 1, 1, "b", api.OK)
	wantCommit(t, d, 1, 2, "x", api.OK)
	wantLatest(t, d, 1, 2, "x", api.OK)
	wantRead(t, d, 1, 1, "b", api.OK)
	wantPut(t, d, 1, 0, "z", api.ErrSnap)
	wantPut(t, d, 2, 0, "c", api.OK)
	wantCollect(t, d, 1, api.OK)
	wantFiles(t, d, "m", manifestOf(1, 2, "x"), "s.1.0", frameOf("a"), "s.1.1", frameOf("b"))
}

// 22.1, P1: of no disk there is none, whatever else is wrong.
func TestNoDisk(t *testing.T) {
	for _, c := range []int{-1, 0, 1, api.MaxSeq + 1} {
		for _, task := range []int{-1, 0, 1, maxTasks + 1} {
			wantPut(t, nil, c, task, "", api.ErrNone)
			wantPut(t, nil, c, task, bytesOf(api.MaxFrame+1), api.ErrNone)
			wantCommit(t, nil, c, task, "", api.ErrNone)
			wantCommit(t, nil, c, task, bytesOf(maxText+1), api.ErrNone)
			wantRead(t, nil, c, task, "", api.ErrNone)
		}
	}
	wantNoLatest(t, nil, api.ErrNone)
	wantCollect(t, nil, 0, api.ErrNone)
}

// 22.1: a task's file is the frame of its bytes, one change that waits.
func TestPutWritesFrame(t *testing.T) {
	d, waits := disk.New(), 0
	for _, b := range []string{"a", "", "WF", frameOf("inner"), "\x00\xff\n"} {
		for _, c := range []int{1, 2, 10, 100, api.MaxSeq} {
			for _, task := range []int{0, 1, 9, 10, maxTask} {
				d = disk.New()
				wantPut(t, d, c, task, b, api.OK)
				wantFiles(t, d, fileOf(c, task), frameOf(b))
				wantWaiting(t, d, 1)
				wantRead(t, d, c, task, b, api.OK)
				wantNoLatest(t, d, api.ErrNone)
			}
		}
	}
	d = disk.New()
	for task := range maxTasks {
		wantPut(t, d, 7, task, strconv.Itoa(task), api.OK)
		waits++
		wantWaiting(t, d, waits)
	}
	for task := range maxTasks {
		wantRead(t, d, 7, task, strconv.Itoa(task), api.OK)
	}
}

// 22.1: a file that is there is removed and written anew, whatever stands in it: two changes that wait.
func TestPutAnew(t *testing.T) {
	for _, old := range []string{"", "W", frameOf("longer than the new one"), "no frame", frameOf("b")} {
		for _, b := range []string{"", "b", "new"} {
			d := diskOf(t, "s.1.0", old, "s.1.1", frameOf("b"), "s.2.0", "other", "s.11.0", "")
			wantPut(t, d, 1, 0, b, api.OK)
			wantWaiting(t, d, 2)
			wantFiles(t, d, "s.1.0", frameOf(b), "s.1.1", frameOf("b"), "s.2.0", "other", "s.11.0", "")
			d.Crash(1, -1)
			wantRead(t, d, 1, 0, "", api.ErrNone)
			wantFiles(t, d, "s.1.1", frameOf("b"), "s.2.0", "other", "s.11.0", "")
		}
	}
}

// 22.1: the longest bytes, and one byte more; these are refused ahead of what Latest refuses.
func TestPutLong(t *testing.T) {
	d := disk.New()
	wantPut(t, d, 1, 0, bytesOf(api.MaxFrame), api.OK)
	wantRead(t, d, 1, 0, bytesOf(api.MaxFrame), api.OK)
	for _, d := range []*disk.Disk{d, committed(t, 5, "a"), diskOf(t, "m", "corrupt")} {
		for _, n := range []int{api.MaxFrame + 1, api.MaxBytes, api.MaxBytes + 1, 1 << 22} {
			wantSame(t, d, func() { wantPut(t, d, 1, 0, bytesOf(n), api.ErrLong) })
		}
	}
}

// 22.1, R1, P1: numbers that may not be are refused ahead of all that is wrong besides.
func TestPutRange(t *testing.T) {
	for _, d := range []*disk.Disk{disk.New(), committed(t, 5, "a"), diskOf(t, "m", "corrupt")} {
		for _, b := range []string{"", bytesOf(api.MaxFrame + 1)} {
			wantSame(t, d, func() {
				for _, c := range append(append([]int{0}, belows...), aboves...) {
					wantPut(t, d, c, 0, b, api.ErrRange)
					wantPut(t, d, c, -1, b, api.ErrRange)
				}
				for _, task := range append(append([]int{maxTasks, maxTasks + 1}, belows...), aboves...) {
					wantPut(t, d, 6, task, b, api.ErrRange)
					wantPut(t, d, 0, task, b, api.ErrRange)
				}
			})
		}
	}
}

// 22.1: only numbers above the one that counts are put, whatever tasks it has.
func TestPutNotAbove(t *testing.T) {
	d := committed(t, 5, "a", "b")
	wantSame(t, d, func() {
		for c := 1; c <= 5; c++ {
			for task := range maxTasks {
				wantPut(t, d, c, task, "z", api.ErrSnap)
			}
		}
	})
	wantPut(t, d, 6, 0, "z", api.OK)
	wantPut(t, d, api.MaxSeq, maxTask, "z", api.OK)
	wantLatest(t, d, 5, 2, "5", api.OK)

	d = committed(t, api.MaxSeq, "a")
	wantSame(t, d, func() { wantPut(t, d, api.MaxSeq, 0, "z", api.ErrSnap) })
	wantRead(t, d, api.MaxSeq, 0, "a", api.OK)
}

// 22.1: what Latest refuses comes ahead of ErrSnap, but that there is none.
func TestPutCorrupt(t *testing.T) {
	d := diskOf(t, "m", manifestOf(5, 1, "")+"x", "s.5.0", frameOf("a"))
	wantSame(t, d, func() {
		wantPut(t, d, 1, 0, "", api.ErrCorrupt)
		wantPut(t, d, 5, 0, "", api.ErrCorrupt)
		wantPut(t, d, 6, 0, "", api.ErrCorrupt)
	})
	want(t, d.Remove("m"), api.OK)
	wantPut(t, d, 1, 0, "", api.OK)
	wantPut(t, d, 5, 0, "b", api.OK)
	wantRead(t, d, 5, 0, "b", api.OK)
}

// 22.1: a disk without room for the frame: one byte more than there is, and just as many.
func TestPutFullOfBytes(t *testing.T) {
	for _, room := range []int{0, 1, 9, 10, 11, 500} {
		d := diskOf(t, "z", bytesOf(api.MaxBytes-room))
		if room < 10 {
			wantSame(t, d, func() { wantPut(t, d, 1, 0, "", api.ErrFull) })
			continue
		}
		wantSame(t, d, func() { wantPut(t, d, 1, 0, bytesOf(room-9), api.ErrFull) })
		wantRead(t, d, 1, 0, "", api.ErrNone)
		wantPut(t, d, 1, 0, bytesOf(room-10), api.OK)
		wantPut(t, d, 1, 1, "", api.ErrFull)
		wantPut(t, d, 1, 0, bytesOf(room-10), api.OK) // what is removed makes room
		wantRead(t, d, 1, 0, bytesOf(room-10), api.OK)
	}
}

// 22.1: as many files as may be take no file more, but one in the place of another.
func TestPutFullOfFiles(t *testing.T) {
	files := []string{"s.1.0", frameOf("a")}
	for i := range api.MaxFiles - 1 {
		files = append(files, "f"+strconv.Itoa(i), "")
	}
	d := diskOf(t, files...)
	wantSame(t, d, func() { wantPut(t, d, 1, 1, "b", api.ErrFull) })
	wantPut(t, d, 1, 0, "b", api.OK)
	wantRead(t, d, 1, 0, "b", api.OK)
	want(t, d.Remove("f3"), api.OK)
	wantPut(t, d, 1, 1, "c", api.OK)
}

// 22.1: as many changes wait as may be: none of them, one, both of a file that is there are taken; what was refused on the way was removed.
func TestPutFullOfChanges(t *testing.T) {
	d := diskOf(t, "s.1.0", frameOf("a"))
	waitFor(t, d, api.MaxWrites)
	wantSame(t, d, func() {
		wantPut(t, d, 1, 0, "b", api.ErrFull)
		wantPut(t, d, 1, 1, "b", api.ErrFull)
	})
	want(t, d.Sync(), api.OK)
	waitFor(t, d, api.MaxWrites-1)
	wantPut(t, d, 1, 0, "b", api.ErrFull)
	wantRead(t, d, 1, 0, "", api.ErrNone)
	wantWaiting(t, d, api.MaxWrites)
	want(t, d.Sync(), api.OK)
	wantPut(t, d, 1, 0, "b", api.OK)
	wantRead(t, d, 1, 0, "b", api.OK)
	waitFor(t, d, api.MaxWrites-2)
	wantPut(t, d, 1, 0, "c", api.OK)
	wantRead(t, d, 1, 0, "c", api.OK)
}

// 22.1: a disk that is down, and one whose fuse ends at each of the two changes.
func TestPutDown(t *testing.T) {
	for fuse, files := range [][]string{{"s.1.0", frameOf("a")}, {}, {"s.1.0", frameOf("b")}} {
		d, e := diskOf(t, "s.1.0", frameOf("a")), api.ErrDown
		if fuse == 2 {
			e = api.OK
		}
		want(t, d.Fuse(fuse), api.OK)
		wantPut(t, d, 1, 0, "b", e)
		wantFiles(t, d, files...)
		want(t, d.Sync(), api.ErrDown)
	}
	d := diskOf(t, "s.1.0", frameOf("a"), "z", bytesOf(api.MaxBytes-20))
	bringDown(t, d)
	wantPut(t, d, 1, 0, bytesOf(100), api.ErrDown) // that there is no room the write would tell, behind the removal
	wantPut(t, d, 1, 1, bytesOf(100), api.ErrFull)

	d = committed(t, 1, "a")
	bringDown(t, d)
	wantSame(t, d, func() {
		wantPut(t, d, 2, 0, "b", api.ErrDown)
		wantPut(t, d, 1, 0, "b", api.ErrSnap)
		wantPut(t, d, 1, 0, bytesOf(api.MaxFrame+1), api.ErrLong)
		wantPut(t, d, 0, 0, "", api.ErrRange)
	})
}

// 22.3: of a task the bytes that were put last; of others none; numbers as Put takes them.
func TestRead(t *testing.T) {
	d := disk.New()
	wantPut(t, d, 3, 2, "a", api.OK)
	wantPut(t, d, 3, 2, "b", api.OK)
	wantSame(t, d, func() {
		wantRead(t, d, 3, 2, "b", api.OK)
		wantRead(t, d, 3, 1, "", api.ErrNone)
		wantRead(t, d, 2, 2, "", api.ErrNone)
		wantRead(t, d, 32, 2, "", api.ErrNone)
		wantRead(t, d, api.MaxSeq, maxTask, "", api.ErrNone)
		for _, c := range append(append([]int{0}, belows...), aboves...) {
			wantRead(t, d, c, 2, "", api.ErrRange)
		}
		for _, task := range append(append([]int{maxTasks, maxTasks + 1}, belows...), aboves...) {
			wantRead(t, d, 3, task, "", api.ErrRange)
		}
	})
	bringDown(t, d)
	wantRead(t, d, 3, 2, "b", api.OK)
}

// 22.3: a task's file is read whatever counts, and whatever the manifest is.
func TestReadWithoutManifest(t *testing.T) {
	d := diskOf(t, "m", "corrupt", "s.1.0", frameOf("a"))
	wantRead(t, d, 1, 0, "a", api.OK)
	d = committed(t, 2, "b")
	want(t, d.Write("s.1.0", 0, frameOf("a")), api.OK)
	want(t, d.Write("s.3.7", 0, frameOf("c")), api.OK)
	wantRead(t, d, 1, 0, "a", api.OK)
	wantRead(t, d, 3, 7, "c", api.OK)
}

// 22.3: a file that is not just one frame: each beginning, each other byte, each byte more.
func TestReadCorrupt(t *testing.T) {
	whole := frameOf("abc")
	var wrong []string
	for i := range len(whole) {
		wrong = append(wrong, whole[:i], whole[i:i+1], whole+whole[:i+1], whole[:i]+string([]byte{whole[i] ^ 1})+whole[i+1:])
		if i > 0 {
			wrong = append(wrong, whole[i:])
		}
	}
	wrong = append(wrong, "x"+whole, whole+"\x00", whole+"x", "WF\x00\x01\x00\x01"+bytesOf(api.MaxFrame+5))
	for _, b := range wrong {
		wantRead(t, diskOf(t, "s.1.0", b), 1, 0, "", api.ErrCorrupt)
	}
	wantRead(t, diskOf(t, "s.1.0", whole), 1, 0, "abc", api.OK)
}

// 22.1: of the same number a task's bytes may be put as often as one likes until it counts, and each other snapshot has its own.
func TestPutsStandApart(t *testing.T) {
	d := disk.New()
	for k := range 4 {
		for c := 1; c <= 4; c++ {
			for task := range 3 {
				wantPut(t, d, c, task, strconv.Itoa(100*k+10*c+task), api.OK)
			}
		}
	}
	for c := 1; c <= 4; c++ {
		for task := range 3 {
			wantRead(t, d, c, task, strconv.Itoa(300+10*c+task), api.OK)
		}
	}
	if e := snap.Commit(d, 2, 3, ""); e != api.OK {
		t.Fatal(e)
	}
	wantRead(t, d, 1, 2, "312", api.OK)
	wantPut(t, d, 3, 0, "new", api.OK)
	wantPut(t, d, 1, 0, "new", api.ErrSnap)
}
