package snap_test

import (
	"encoding/binary"
	"hash/crc32"
	"maps"
	"math"
	"slices"
	"strconv"
	"strings"
	"testing"

	"weaver/api"
	"weaver/disk"
	"weaver/snap"
)

const (
	maxTask  = 32
	maxTasks = 33
	maxText  = 60000
)

// belows are no numbers of anything, aboves more than anything can have.
var (
	belows = []int{math.MinInt, math.MinInt + 1, math.MinInt32 - 1, math.MinInt32, -1 << 16, -33, -2, -1}
	aboves = []int{api.MaxSeq + 1, 1<<31 - 1, 1 << 31, 1 << 32, 1<<32 + 1, 1 << 62, math.MaxInt - 1, math.MaxInt}
)

// frameOf writes a frame by chapter 1's words, by the library, to hold the files' bytes against.
func frameOf(body string) string {
	ahead := binary.BigEndian.AppendUint32([]byte("WF"), uint32(len(body)))
	sum := crc32.Checksum(append(slices.Clone(ahead), body...), crc32.MakeTable(crc32.Castagnoli))
	return string(binary.BigEndian.AppendUint32(ahead, sum)) + body
}

// number and text write items by chapter 1's words.
func number(n int) string {
	return "\x01" + groups(n)
}

func text(s string) string {
	return "\x02" + groups(len(s)) + s
}

func groups(n int) string {
	u := uint64(n) << 1
	if n < 0 {
		u = ^u
	}
	b := string([]byte{byte(u & 127)})
	for u >>= 7; u > 0; u >>= 7 {
		b = string([]byte{byte(u&127 | 128)}) + b
	}
	return b
}

func manifestOf(c, tasks int, s string) string {
	return frameOf(number(c) + number(tasks) + text(s))
}

func fileOf(c, task int) string {
	return "s." + strconv.Itoa(c) + "." + strconv.Itoa(task)
}

func bytesOf(n int) string { return strings.Repeat("x", n) }

func want(t *testing.T, got, want api.Errno) {
	t.Helper()
	if got != want {
		t.Fatalf("answered %d, want %d", got, want)
	}
}

func wantPut(t *testing.T, d *disk.Disk, c, task int, b string, want api.Errno) {
	t.Helper()
	if e := snap.Put(d, c, task, b); e != want {
		t.Fatalf("Put(%d, %d, %.40q) = %d, want %d", c, task, b, e, want)
	}
}

func wantCommit(t *testing.T, d *disk.Disk, c, tasks int, text string, want api.Errno) {
	t.Helper()
	if e := snap.Commit(d, c, tasks, text); e != want {
		t.Fatalf("Commit(%d, %d, %.40q) = %d, want %d", c, tasks, text, e, want)
	}
}

// wantLatest asks twice, since asking changes nothing.
func wantLatest(t *testing.T, d *disk.Disk, c, tasks int, text string, e api.Errno) {
	t.Helper()
	for range 2 {
		if n, k, s, got := snap.Latest(d); n != c || k != tasks || s != text || got != e {
			t.Fatalf("Latest() = %d, %d, %.40q, %d, want %d, %d, %.40q, %d", n, k, s, got, c, tasks, text, e)
		}
	}
}

func wantNoLatest(t *testing.T, d *disk.Disk, e api.Errno) {
	t.Helper()
	wantLatest(t, d, 0, 0, "", e)
}

func wantRead(t *testing.T, d *disk.Disk, c, task int, b string, e api.Errno) {
	t.Helper()
	for range 2 {
		if s, got := snap.Read(d, c, task); s != b || got != e {
			t.Fatalf("Read(%d, %d) = %.40q, %d, want %.40q, %d", c, task, s, got, b, e)
		}
	}
}

func wantCollect(t *testing.T, d *disk.Disk, want int, e api.Errno) {
	t.Helper()
	if n, got := snap.Collect(d); n != want || got != e {
		t.Fatalf("Collect() = %d, %d, want %d, %d", n, got, want, e)
	}
}

func wantWaiting(t *testing.T, d *disk.Disk, n int) {
	t.Helper()
	if got := d.Waiting(); got != n {
		t.Fatalf("%d wait, want %d", got, n)
	}
}

func filesOf(d *disk.Disk) map[string]string {
	files := map[string]string{}
	for _, name := range d.Names() {
		files[name], _ = d.Read(name)
	}
	return files
}

// wantFiles asks for all files of a disk, name and bytes in turn.
func wantFiles(t *testing.T, d *disk.Disk, files ...string) {
	t.Helper()
	want := map[string]string{}
	for i := 0; i < len(files); i += 2 {
		want[files[i]] = files[i+1]
	}
	if got := filesOf(d); !maps.Equal(got, want) {
		t.Fatalf("files: %.400q, want %.400q", got, want)
	}
}

// wantSame asks whether a call left the files, and the changes that wait, as they were.
func wantSame(t *testing.T, d *disk.Disk, call func()) {
	t.Helper()
	files, waiting := filesOf(d), d.Waiting()
	call()
	if got := filesOf(d); !maps.Equal(got, files) {
		t.Fatalf("files: %.400q, were %.400q", got, files)
	}
	wantWaiting(t, d, waiting)
}

// diskOf is a disk whose files, name and bytes in turn, are safe.
func diskOf(t *testing.T, files ...string) *disk.Disk {
	t.Helper()
	d := disk.New()
	for i := 0; i < len(files); i += 2 {
		want(t, d.Write(files[i], 0, files[i+1]), api.OK)
	}
	want(t, d.Sync(), api.OK)
	return d
}

// waitFor lets changes wait until there are n of them; none changes a byte of a file but of z.
func waitFor(t *testing.T, d *disk.Disk, n int) {
	t.Helper()
	for d.Waiting() < n {
		want(t, d.Write("z", 0, ""), api.OK)
	}
}

// bringDown leaves the disk's files as they are.
func bringDown(t *testing.T, d *disk.Disk) {
	t.Helper()
	want(t, d.Fuse(0), api.OK)
	want(t, d.Sync(), api.ErrDown)
}

// committed has the snapshot c of as many tasks as bytes are given, of a text of its number.
func committed(t *testing.T, c int, shots ...string) *disk.Disk {
	t.Helper()
	d := disk.New()
	commit(t, d, c, shots...)
	return d
}

func commit(t *testing.T, d *disk.Disk, c int, shots ...string) {
	t.Helper()
	for task, b := range shots {
		wantPut(t, d, c, task, b, api.OK)
	}
	wantCommit(t, d, c, len(shots), strconv.Itoa(c), api.OK)
}
