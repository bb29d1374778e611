package disk_test

import (
	"math"
	"testing"

	"weaver/api"
	"weaver/disk"
)

// theFive are the calls that use up a fuse, each one that nothing else refuses on a disk with the files a (xyz) and b.
func theFive() []func(d *disk.Disk) api.Errno {
	return []func(d *disk.Disk) api.Errno{
		func(d *disk.Disk) api.Errno { return d.Write("a", 0, "") },
		func(d *disk.Disk) api.Errno { return d.Cut("a", 3) },
		func(d *disk.Disk) api.Errno { return d.Rename("a", "a") },
		func(d *disk.Disk) api.Errno { return d.Remove("b") },
		func(d *disk.Disk) api.Errno { return d.Sync() },
	}
}

// 3.3: each of the five calls uses the fuse up, and is refused when nothing is left of it.
func TestFuseUsedUp(t *testing.T) {
	for n := range 4 {
		for _, call := range theFive() {
			d := diskOf(t, "a", "xyz", "b", "u")
			want(t, d.Fuse(n), api.OK)
			for i := range n {
				want(t, d.Write("c", 0, "n"), api.OK)
				wantWaiting(t, d, i+1)
			}
			before := state(t, d)
			want(t, call(d), api.ErrDown)
			wantWaiting(t, d, n)
			wantState(t, d, before)

			d = diskOf(t, "a", "xyz", "b", "u")
			want(t, d.Fuse(1), api.OK)
			want(t, call(d), api.OK)
			want(t, d.Write("a", 0, "n"), api.ErrDown)
		}
	}
}

// 3.1 to 3.3: a disk that is down refuses all five, and tells what it has.
func TestDown(t *testing.T) {
	d := diskOf(t, "a", "xyz", "b", "u")
	want(t, d.Write("a", 3, "n"), api.OK)
	want(t, d.Fuse(0), api.OK)
	want(t, d.Write("a", 4, "m"), api.ErrDown)
	for range 3 {
		for _, call := range theFive() {
			want(t, call(d), api.ErrDown)
		}
		wantRefusedFirstOf(t, d)
		wantWaiting(t, d, 1)
		wantState(t, d, map[string]string{"a": "xyzn", "b": "u"})
		wantNoFile(t, d, "c", api.ErrNone)
		wantNoFile(t, d, "C", api.ErrName)
		want(t, d.Fuse(-1), api.ErrRange)
		want(t, d.Fuse(5), api.OK)
	}
	d.Crash(1, 0)
	wantState(t, d, map[string]string{"a": "xyzn", "b": "u"})
	for range 2 * api.MaxWrites {
		want(t, d.Sync(), api.OK)
	}
	for _, call := range theFive() {
		want(t, call(d), api.OK)
	}
}

func wantRefusedFirstOf(t *testing.T, d *disk.Disk) {
	t.Helper()
	want(t, d.Write("a", 5, ""), api.ErrRange)
	want(t, d.Write("none", 1, ""), api.ErrRange)
	want(t, d.Cut("a", 5), api.ErrRange)
	want(t, d.Cut("none", 0), api.ErrNone)
	want(t, d.Rename("none", "a"), api.ErrNone)
	want(t, d.Remove("none"), api.ErrNone)
}

// What is refused for another reason, and what only asks, uses up nothing, and brings no disk down.
func TestFuseLeft(t *testing.T) {
	d := diskOf(t, "a", "xyz", "b", "u")
	for _, n := range []int{0, 1} {
		want(t, d.Fuse(n), api.OK)
		for range 3 {
			wantRefusedFirst(t, d)
			want(t, d.Write("c", 0, bytesOf(api.MaxBytes)), api.ErrFull)
			wantNoFile(t, d, "", api.ErrName)
			state(t, d)
			wantWaiting(t, d, 0)
			want(t, d.Fuse(-1), api.ErrRange)
		}
	}
	// The fuse of 0 was set anew while the disk was up, and that of 1 is whole.
	want(t, d.Sync(), api.OK)
	want(t, d.Sync(), api.ErrDown)
}

// 3.3: the last fuse that is set counts.
func TestFuseSetAnew(t *testing.T) {
	d := disk.New()
	want(t, d.Fuse(0), api.OK)
	want(t, d.Fuse(3), api.OK)
	want(t, d.Sync(), api.OK)
	want(t, d.Fuse(2), api.OK)
	for range 2 {
		want(t, d.Write("a", 0, "x"), api.OK)
	}
	want(t, d.Fuse(1), api.OK)
	want(t, d.Sync(), api.OK)
	want(t, d.Fuse(math.MaxInt), api.OK)
	for range 100 {
		want(t, d.Sync(), api.OK)
	}
	want(t, d.Fuse(0), api.OK)
	want(t, d.Sync(), api.ErrDown)
}

// 3.3: a fuse below 0 is refused, and what was set stays.
func TestFuseBelowNothing(t *testing.T) {
	for _, n := range []int{-1, -2, math.MinInt} {
		d := disk.New()
		want(t, d.Fuse(n), api.ErrRange)
		want(t, d.Sync(), api.OK)
		want(t, d.Fuse(1), api.OK)
		want(t, d.Fuse(n), api.ErrRange)
		want(t, d.Sync(), api.OK)
		want(t, d.Sync(), api.ErrDown)
	}
}

// 3.4: a crash takes the fuse away, of a disk that is up too, and of one that was set while it was down.
func TestCrashTakesFuse(t *testing.T) {
	for _, down := range []bool{false, true} {
		d := disk.New()
		want(t, d.Fuse(0), api.OK)
		if down {
			want(t, d.Sync(), api.ErrDown)
			want(t, d.Fuse(2), api.OK)
			want(t, d.Sync(), api.ErrDown)
		}
		d.Crash(0, 0)
		for range 5 {
			want(t, d.Write("a", 0, "x"), api.OK)
		}
		want(t, d.Fuse(1), api.OK)
		want(t, d.Sync(), api.OK)
		want(t, d.Sync(), api.ErrDown)
	}
}
