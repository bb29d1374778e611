package tape_test

import (
	"slices"
	"strconv"
	"testing"

	"weaver/api"
	"weaver/disk"
	"weaver/tape"
)

// 4.2: texts are numbered from 0 on; their frames stand in the file, one behind the other, each one change that waits.
func TestAppend(t *testing.T) {
	d := disk.New()
	x := opened(t, d, "a")
	var texts []string
	for i, s := range []string{"a", "", "", "WF", frameOf("inner"), "\x00\xff\n", bytesOf(api.MaxFrame - 1), bytesOf(api.MaxFrame)} {
		want(t, x.Append(s), api.OK)
		texts = append(texts, s)
		wantTexts(t, x, texts...)
		wantFiles(t, d, "a", framesOf(texts...))
		wantWaiting(t, d, i+1)
		wantTexts(t, opened(t, d, "a"), texts...)
	}
}

// 4.2: a text of no byte makes the file, too.
func TestAppendNoByte(t *testing.T) {
	d := disk.New()
	x := opened(t, d, "a")
	want(t, x.Append(""), api.OK)
	wantTexts(t, x, "")
	wantFiles(t, d, "a", frameOf(""))
}

// 4.2: texts that are appended behind those that were there.
func TestAppendBehindOthers(t *testing.T) {
	d := diskOf(t, "a", framesOf("one", "two"))
	x := opened(t, d, "a")
	want(t, x.Append("three"), api.OK)
	wantTexts(t, x, "one", "two", "three")
	wantFiles(t, d, "a", framesOf("one", "two", "three"))
}

// 4.2: a text that is too long is refused ahead of all else, and uses up nothing.
func TestAppendLong(t *testing.T) {
	d := diskOf(t, "a", frameOf("a"), "z", "")
	x := opened(t, d, "a")
	refused := func() {
		t.Helper()
		for _, n := range []int{api.MaxFrame + 1, api.MaxBytes, api.MaxBytes + 1, 1 << 22} {
			want(t, x.Append(bytesOf(n)), api.ErrLong)
		}
		wantTexts(t, x, "a")
		wantFiles(t, d, "a", frameOf("a"), "z", "")
	}
	refused()
	wantWaiting(t, d, 0)
	want(t, d.Fuse(0), api.OK)
	refused()
	want(t, d.Fuse(api.MaxWrites), api.OK)
	waitFor(t, d, api.MaxWrites)
	refused()
	bringDown(t, d)
	refused()
}

// 4.2: a disk without room for the bytes: one byte more than there is, and just as many.
func TestAppendFullOfBytes(t *testing.T) {
	for _, room := range []int{0, 1, 9, 10, 11, 500} {
		d := diskOf(t, "a", frameOf("a"), "b", bytesOf(api.MaxBytes-11-room))
		x := opened(t, d, "a")
		if room < 10 {
			want(t, x.Append(""), api.ErrFull)
			wantTexts(t, x, "a")
			wantWaiting(t, d, 0)
			continue
		}
		want(t, x.Append(bytesOf(room-9)), api.ErrFull)
		wantTexts(t, x, "a")
		wantWaiting(t, d, 0)
		want(t, x.Append(bytesOf(room-10)), api.OK)
		wantTexts(t, x, "a", bytesOf(room-10))
		want(t, x.Append(""), api.ErrFull)
		wantTexts(t, x, "a", bytesOf(room-10))
	}
}

// 4.2: the longest text is written three times, and no more have room.
func TestAppendLongest(t *testing.T) {
	d := disk.New()
	x := opened(t, d, "a")
	s := bytesOf(api.MaxFrame)
	for range 3 {
		want(t, x.Append(s), api.OK)
	}
	want(t, x.Append(s), api.ErrFull)
	wantTexts(t, x, s, s, s)
	want(t, x.Sync(), api.OK)
	wantTexts(t, opened(t, d, "a"), s, s, s)
}

// 4.2: a disk that has as many files as may be takes no file more, but texts of one that is there.
func TestAppendFullOfFiles(t *testing.T) {
	var files []string
	for i := range api.MaxFiles {
		files = append(files, "f"+strconv.Itoa(i), "")
	}
	d := diskOf(t, files...)
	x, y := opened(t, d, "a"), opened(t, d, "f7")
	want(t, x.Append("x"), api.ErrFull)
	wantTexts(t, x)
	want(t, y.Append("y"), api.OK)
	wantTexts(t, y, "y")
	want(t, d.Remove("f8"), api.OK)
	want(t, x.Append("x"), api.OK)
	wantTexts(t, x, "x")
}

// 4.2: as many changes wait as may be; a sync lets texts through again.
func TestAppendFullOfChanges(t *testing.T) {
	d := disk.New()
	x := opened(t, d, "a")
	texts := make([]string, api.MaxWrites)
	for i := range texts {
		texts[i] = strconv.Itoa(i)
		want(t, x.Append(texts[i]), api.OK)
	}
	want(t, x.Append("more"), api.ErrFull)
	bringDown(t, d)
	want(t, x.Append("more"), api.ErrFull)
	wantTexts(t, x, texts...)

	d = diskOf(t, "a", framesOf(texts...))
	x = opened(t, d, "a")
	waitFor(t, d, api.MaxWrites)
	want(t, x.Append("more"), api.ErrFull)
	want(t, x.Sync(), api.OK)
	want(t, x.Append("more"), api.OK)
	wantTexts(t, x, append(texts, "more")...)
}

// 4.2: a disk whose fuse is at its end, and one that is down.
func TestAppendDown(t *testing.T) {
	d := diskOf(t, "a", frameOf("a"))
	x := opened(t, d, "a")
	want(t, d.Fuse(2), api.OK)
	want(t, x.Append("b"), api.OK)
	want(t, x.Append("c"), api.OK)
	want(t, x.Append("d"), api.ErrDown)
	want(t, d.Fuse(9), api.OK)
	want(t, x.Append("d"), api.ErrDown)
	want(t, x.Sync(), api.ErrDown)
	wantTexts(t, x, "a", "b", "c")
	wantFiles(t, d, "a", framesOf("a", "b", "c"))
	wantWaiting(t, d, 2)
}

// 4.2: Sync makes all the disk's changes safe, those of others, too.
func TestSync(t *testing.T) {
	d := disk.New()
	x, y := opened(t, d, "a"), opened(t, d, "b")
	want(t, x.Sync(), api.OK)
	want(t, x.Append("x"), api.OK)
	want(t, y.Append("y"), api.OK)
	want(t, d.Write("c", 0, "z"), api.OK)
	wantWaiting(t, d, 3)
	want(t, x.Sync(), api.OK)
	wantWaiting(t, d, 0)
	wantTexts(t, x, "x")
	d.Crash(0, -1)
	wantFiles(t, d, "a", frameOf("x"), "b", frameOf("y"), "c", "z")
}

// 4.2: Sync on a disk that is down, or whose fuse is at its end: what waited still waits.
func TestSyncDown(t *testing.T) {
	d := disk.New()
	x := opened(t, d, "a")
	want(t, d.Fuse(2), api.OK)
	want(t, x.Append("x"), api.OK)
	want(t, x.Sync(), api.OK)
	want(t, x.Sync(), api.ErrDown)
	want(t, d.Fuse(9), api.OK)
	want(t, x.Sync(), api.ErrDown)

	d = disk.New()
	x = opened(t, d, "a")
	want(t, x.Append("x"), api.OK)
	bringDown(t, d)
	want(t, x.Sync(), api.ErrDown)
	wantWaiting(t, d, 1)
	wantTexts(t, x, "x")
	d.Crash(0, -1)
	wantTexts(t, opened(t, d, "a"))
}

// 4.2: two tapes on one disk have texts of their own; two of one file write behind one another.
func TestTwoTapes(t *testing.T) {
	d := disk.New()
	x, y := opened(t, d, "a"), opened(t, d, "b")
	want(t, x.Append("one"), api.OK)
	want(t, y.Append("two"), api.OK)
	want(t, x.Append("three"), api.OK)
	wantTexts(t, x, "one", "three")
	wantTexts(t, y, "two")
	wantFiles(t, d, "a", framesOf("one", "three"), "b", frameOf("two"))

	again := opened(t, d, "b")
	want(t, again.Append("four"), api.OK)
	want(t, y.Append("five"), api.OK)
	wantTexts(t, opened(t, d, "b"), "two", "four", "five")
	wantTexts(t, opened(t, d, "a"), "one", "three")
}

// 4.2: tapes of one name on two disks have nothing in common.
func TestTwoDisks(t *testing.T) {
	x, y := opened(t, disk.New(), "a"), opened(t, disk.New(), "a")
	want(t, x.Append("one"), api.OK)
	wantTexts(t, y)
	want(t, y.Append("two"), api.OK)
	wantTexts(t, x, "one")
	wantTexts(t, y, "two")
}

// R7: asking changes nothing, neither in the tape nor on the disk.
func TestAskingChangesNothing(t *testing.T) {
	d := disk.New()
	x := opened(t, d, "a")
	want(t, x.Append("a"), api.OK)
	want(t, x.Append("b"), api.OK)
	want(t, d.Fuse(1), api.OK)
	for range 3 {
		wantTexts(t, x, "a", "b")
		wantFiles(t, d, "a", framesOf("a", "b"))
		wantWaiting(t, d, 2)
	}
	want(t, x.Append("c"), api.OK)
	want(t, x.Append("d"), api.ErrDown)
}

// P1: a tape that is not to be asked any more ends its calls all the same, whatever became of its file.
func TestStaleTapesEnd(t *testing.T) {
	for _, crash := range []func(d *disk.Disk){
		func(d *disk.Disk) { d.Crash(0, -1) },
		func(d *disk.Disk) { d.Crash(1, 5) },
		func(d *disk.Disk) { d.Crash(9, 9) },
		func(d *disk.Disk) { d.Remove("a") },
		func(d *disk.Disk) { d.Cut("a", 3) },
		func(d *disk.Disk) { d.Rename("a", "b") },
	} {
		d := disk.New()
		x := opened(t, d, "a")
		for _, s := range []string{"a", "b", "c"} {
			want(t, x.Append(s), api.OK)
		}
		crash(d)
		for range 2 {
			want(t, x.Append("d"), api.OK)
			want(t, x.Sync(), api.OK)
			x.Len()
			x.Read(0)
			x.Last()
		}
	}
}

// P1: a disk that is none of New's is taken as it is: it refuses, and nothing panics.
func TestZeroDisk(t *testing.T) {
	x, e := tape.Open(new(disk.Disk), "a")
	if e != api.OK {
		return
	}
	if e := x.Append("a"); e != api.OK && !slices.Contains([]api.Errno{api.ErrFull, api.ErrDown}, e) {
		t.Error(e)
	}
	x.Sync()
	x.Last()
}
