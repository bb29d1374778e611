package tape_test

import (
	"encoding/binary"
	"hash/crc32"
	"maps"
	"math"
	"slices"
	"strings"
	"testing"
	"unsafe"

	"weaver/api"
	"weaver/disk"
	"weaver/tape"
)

// frameOf writes a frame by chapter 1's words, by the library, to hold the file's bytes against.
func frameOf(body string) string {
	ahead := binary.BigEndian.AppendUint32([]byte("WF"), uint32(len(body)))
	sum := crc32.Checksum(append(slices.Clone(ahead), body...), crc32.MakeTable(crc32.Castagnoli))
	return string(binary.BigEndian.AppendUint32(ahead, sum)) + body
}

func framesOf(bodies ...string) string {
	b := ""
	for _, body := range bodies {
		b += frameOf(body)
	}
	return b
}

func bytesOf(n int) string { return strings.Repeat("x", n) }

func want(t *testing.T, got, want api.Errno) {
	t.Helper()
	if got != want {
		t.Errorf("answered %d, want %d", got, want)
	}
}

func wantWaiting(t *testing.T, d *disk.Disk, n int) {
	t.Helper()
	if got := d.Waiting(); got != n {
		t.Errorf("%d wait, want %d", got, n)
	}
}

// wantFiles asks for all files of a disk, name and bytes in turn.
func wantFiles(t *testing.T, d *disk.Disk, files ...string) {
	t.Helper()
	got, want := map[string]string{}, map[string]string{}
	for _, name := range d.Names() {
		got[name], _ = d.Read(name)
	}
	for i := 0; i < len(files); i += 2 {
		want[files[i]] = files[i+1]
	}
	if !maps.Equal(got, want) {
		t.Errorf("files: %.200q, want %.200q", got, want)
	}
}

// wantTexts asks a tape for all that it tells.
func wantTexts(t *testing.T, x *tape.Tape, texts ...string) {
	t.Helper()
	if x == nil {
		t.Fatal("no tape")
	}
	if n := x.Len(); n != len(texts) {
		t.Fatalf("Len() = %d, want %d", n, len(texts))
	}
	for i, s := range texts {
		if got, e := x.Read(i); got != s || e != api.OK {
			t.Errorf("Read(%d) = %.40q, %d, want %.40q", i, got, e, s)
		}
	}
	for _, i := range []int{-1, -2, math.MinInt, len(texts), len(texts) + 1, math.MaxInt} {
		if got, e := x.Read(i); got != "" || e != api.ErrRange {
			t.Errorf("Read(%d) of %d texts = %.40q, %d", i, len(texts), got, e)
		}
	}
	got, e := x.Last()
	if len(texts) == 0 {
		if got != "" || e != api.ErrNone {
			t.Errorf("Last() = %.40q, %d, want none", got, e)
		}
		return
	}
	if last := texts[len(texts)-1]; got != last || e != api.OK {
		t.Errorf("Last() = %.40q, %d, want %.40q", got, e, last)
	}
}

func wantRefused(t *testing.T, d *disk.Disk, name string, want api.Errno) {
	t.Helper()
	if x, e := tape.Open(d, name); x != nil || e != want {
		t.Errorf("Open(%.40q) = a tape: %v, %d, want none, %d", name, x != nil, e, want)
	}
}

func opened(t *testing.T, d *disk.Disk, name string) *tape.Tape {
	t.Helper()
	x, e := tape.Open(d, name)
	if x == nil || e != api.OK {
		t.Fatalf("Open(%.40q) = a tape: %v, %d", name, x != nil, e)
	}
	return x
}

// diskOf is a disk whose files, name and bytes in turn, are safe.
func diskOf(t *testing.T, files ...string) *disk.Disk {
	t.Helper()
	d := disk.New()
	for i := 0; i < len(files); i += 2 {
		want(t, d.Write(files[i], 0, files[i+1]), api.OK)
	}
	want(t, d.Sync(), api.OK)
	return d
}

// waitFor lets changes wait until there are n of them; none changes a byte of a file but of z.
func waitFor(t *testing.T, d *disk.Disk, n int) {
	t.Helper()
	for d.Waiting() < n {
		if e := d.Write("z", 0, ""); e != api.OK {
			t.Fatal(e)
		}
	}
}

// bringDown leaves the disk's files as they are.
func bringDown(t *testing.T, d *disk.Disk) {
	t.Helper()
	want(t, d.Fuse(0), api.OK)
	want(t, d.Sync(), api.ErrDown)
}

// 4.1: no disk, and which error goes first.
func TestOpenWithoutDisk(t *testing.T) {
	for _, name := range []string{"a", "", "A", bytesOf(api.MaxName + 1)} {
		wantRefused(t, nil, name, api.ErrNone)
	}
}

// 4.1: names that may not be, on disks that are new, down, and full.
func TestOpenNames(t *testing.T) {
	down := diskOf(t)
	bringDown(t, down)
	full := diskOf(t)
	waitFor(t, full, api.MaxWrites)
	for _, d := range []*disk.Disk{disk.New(), down, full} {
		for _, name := range []string{"", "A", "a/b", "a b", "a\x00", "\xff", "é", "a-", "_", bytesOf(api.MaxName + 1), bytesOf(1 << 20)} {
			wantRefused(t, d, name, api.ErrName)
		}
		for _, name := range []string{"a", ".", "0.9", bytesOf(api.MaxName)} {
			wantTexts(t, opened(t, d, name))
		}
	}
}

// 4.1: a file that is not there is not made by Open; one without bytes stays so.
func TestOpenWithoutTexts(t *testing.T) {
	d := diskOf(t, "b", "")
	wantTexts(t, opened(t, d, "a"))
	wantTexts(t, opened(t, d, "b"))
	wantFiles(t, d, "b", "")
	wantWaiting(t, d, 0)
}

// 4.1: whole frames alone: nothing is changed, so that a disk that is down, or where no change more may wait, does not matter.
func TestOpenWholeFrames(t *testing.T) {
	for _, texts := range [][]string{
		nil,
		{""},
		{"a"},
		{"", "", ""},
		{"a", "", "WF", frameOf("inner"), "\x00\xff"},
		{bytesOf(api.MaxFrame), "b", bytesOf(api.MaxFrame - 1)},
	} {
		b := framesOf(texts...)
		d := diskOf(t, "a", b)
		wantTexts(t, opened(t, d, "a"), texts...)
		wantWaiting(t, d, 0)
		want(t, d.Fuse(1), api.OK)
		wantTexts(t, opened(t, d, "a"), texts...)
		want(t, d.Sync(), api.OK)
		want(t, d.Sync(), api.ErrDown)
		wantTexts(t, opened(t, d, "a"), texts...)
		wantFiles(t, d, "a", b)

		d = diskOf(t, "a", b, "z", "")
		waitFor(t, d, api.MaxWrites)
		wantTexts(t, opened(t, d, "a"), texts...)
		wantFiles(t, d, "a", b, "z", "")
	}
}

// 4.1: a file that ends within a frame's mark, number, sum or body: that end is cut off, as one change, and the frames ahead of it are there.
func TestOpenCutsEnd(t *testing.T) {
	for _, ahead := range [][]string{nil, {"a"}, {"", "b", ""}} {
		b := framesOf(ahead...)
		for _, next := range []string{"", "x", "four", frameOf("inner"), bytesOf(300)} {
			frame := frameOf(next)
			for n := 1; n < len(frame); n++ {
				d := diskOf(t, "a", b+frame[:n], "b", "other")
				x := opened(t, d, "a")
				wantTexts(t, x, ahead...)
				wantFiles(t, d, "a", b, "b", "other")
				wantWaiting(t, d, 1)
				want(t, x.Append("more"), api.OK)
				wantTexts(t, x, append(slices.Clone(ahead), "more")...)
				wantFiles(t, d, "a", b+frameOf("more"), "b", "other")
				// Nothing is to be cut any more.
				wantTexts(t, opened(t, d, "a"), append(slices.Clone(ahead), "more")...)
				wantWaiting(t, d, 2)
				// The cut was a change that waited.
				d.Crash(0, -1)
				wantFiles(t, d, "a", b+frame[:n], "b", "other")
			}
		}
	}
	long := frameOf(bytesOf(api.MaxFrame))
	d := diskOf(t, "a", frameOf("a")+long[:len(long)-1])
	wantTexts(t, opened(t, d, "a"), "a")
	wantFiles(t, d, "a", frameOf("a"))
}

// 4.1: an end that Unframe tells to be none of a frame, by each of its errors but ErrEnd; nothing is changed, and it goes ahead of what a cut would answer.
func TestOpenCorrupt(t *testing.T) {
	for _, ahead := range []string{"", frameOf("a"), framesOf("", "bc")} {
		for _, end := range []string{
			"X",
			"F",
			"WX",
			"\x00",
			"z" + frameOf("x"),
			"Wf\x00\x00\x00\x00\x00\x00\x00\x00",
			"WF\x00\x01\x00\x01\x00\x00\x00\x00",
			"WF\xff\xff\xff\xff\x00\x00\x00\x00",
			"WF\x00\x00\x00\x00\x00\x00\x00\x00",
			"WF\x00\x00\x00\x02\x00\x00\x00\x00ab",
			"WF\x00\x00\x00\x02\x00\x00\x00\x00ab" + frameOf("x"),
			"WF\x00\x00\x00\x02\x00\x00\x00\x00ab" + frameOf("x")[:10],
		} {
			d := diskOf(t, "a", ahead+end)
			want(t, d.Fuse(1), api.OK)
			wantRefused(t, d, "a", api.ErrCorrupt)
			wantRefused(t, d, "a", api.ErrCorrupt)
			wantFiles(t, d, "a", ahead+end)
			wantWaiting(t, d, 0)
			want(t, d.Sync(), api.OK)
			want(t, d.Sync(), api.ErrDown)
			wantRefused(t, d, "a", api.ErrCorrupt)

			d = diskOf(t, "a", ahead+end)
			waitFor(t, d, api.MaxWrites)
			wantRefused(t, d, "a", api.ErrCorrupt)
		}
	}
}

// 4.1: a frame that is changed and ends early as well: Unframe tells ErrEnd.
func TestOpenCutsWhatEndsEarly(t *testing.T) {
	for _, end := range []string{
		"WF\x00\x00\x00\x02\x00\x00\x00\x00a",
		"WF\xff\xff\xff\xff\xff\xff\xff",
		"WF\x00\x01\x00\x00\x00\x00\x00\x00" + frameOf("x"),
	} {
		d := diskOf(t, "a", frameOf("a")+end)
		wantTexts(t, opened(t, d, "a"), "a")
		wantFiles(t, d, "a", frameOf("a"))
	}
}

// 4.1: an end that must be cut off, and a disk that refuses; ErrFull goes ahead of ErrDown, as chapter 3 has it.
func TestOpenCutRefused(t *testing.T) {
	b := framesOf("a", "b")
	torn := b[:len(b)-1]

	d := diskOf(t, "a", torn)
	bringDown(t, d)
	wantRefused(t, d, "a", api.ErrDown)
	wantFiles(t, d, "a", torn)
	wantTexts(t, opened(t, d, "b"))

	d = diskOf(t, "a", torn)
	want(t, d.Fuse(0), api.OK)
	wantRefused(t, d, "a", api.ErrDown)
	want(t, d.Fuse(9), api.OK)
	wantRefused(t, d, "a", api.ErrDown)
	d.Crash(0, -1)
	wantFiles(t, d, "a", torn)
	wantTexts(t, opened(t, d, "a"), "a")

	d = diskOf(t, "a", torn)
	want(t, d.Fuse(1), api.OK)
	wantTexts(t, opened(t, d, "a"), "a")
	want(t, d.Sync(), api.ErrDown)

	d = diskOf(t, "a", torn, "z", "")
	waitFor(t, d, api.MaxWrites)
	wantRefused(t, d, "a", api.ErrFull)
	want(t, d.Fuse(0), api.OK)
	wantRefused(t, d, "a", api.ErrFull)
	wantFiles(t, d, "a", torn, "z", "")
	wantWaiting(t, d, api.MaxWrites)
	bringDown(t, d)
	wantRefused(t, d, "a", api.ErrFull)

	d = diskOf(t, "a", torn, "z", "")
	waitFor(t, d, api.MaxWrites-1)
	wantTexts(t, opened(t, d, "a"), "a")
	wantWaiting(t, d, api.MaxWrites)
}

// 4.1: a disk that is full of bytes lets a cut through.
func TestOpenCutsOnFullDisk(t *testing.T) {
	b := framesOf("a", "b")
	torn := b[:len(b)-1]
	d := diskOf(t, "a", torn, "b", bytesOf(api.MaxBytes-len(torn)))
	want(t, d.Write("c", 0, "x"), api.ErrFull)
	wantTexts(t, opened(t, d, "a"), "a")
}

// meets says whether two texts share memory.
func meets(a, b string) bool {
	if a == "" || b == "" {
		return false
	}
	x, y := uintptr(unsafe.Pointer(unsafe.StringData(a))), uintptr(unsafe.Pointer(unsafe.StringData(b)))
	return x < y+uintptr(len(b)) && y < x+uintptr(len(a))
}

// R4: names and texts that are handed in are not kept, and answers are new memory.
func TestSharesNothing(t *testing.T) {
	name, room := []byte("name"), []byte("text")
	d := disk.New()
	x := opened(t, d, unsafe.String(&name[0], len(name)))
	s := unsafe.String(&room[0], len(room))
	want(t, x.Append(s), api.OK)
	copy(name, "eman")
	copy(room, "????")
	want(t, x.Append("more"), api.OK)
	wantTexts(t, x, "text", "more")
	wantFiles(t, d, "name", framesOf("text", "more"))
	for _, y := range []*tape.Tape{x, opened(t, d, "name")} {
		var l []string
		for range 2 {
			a, _ := y.Read(0)
			b, _ := y.Read(1)
			c, _ := y.Last()
			l = append(l, a, b, c)
		}
		for i, a := range l {
			for _, b := range l[:i] {
				if meets(a, b) {
					t.Error("two answers share memory")
				}
			}
		}
		// What is written into an answer is not seen in the tape.
		copy(unsafe.Slice(unsafe.StringData(l[0]), len(l[0])), "????")
		wantTexts(t, y, "text", "more")
	}
}
