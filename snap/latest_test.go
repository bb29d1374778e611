package snap_test

import (
	"math"
	"strconv"
	"strings"
	"testing"

	"weaver/api"
	"weaver/disk"
)

// 22.3: the numbers at their bounds; the tasks' files are not asked for.
func TestLatest(t *testing.T) {
	wantNoLatest(t, disk.New(), api.ErrNone)
	wantNoLatest(t, diskOf(t, "m.new", manifestOf(1, 1, ""), "s.1.0", frameOf(""), "m.", "m", "mm", ""), api.ErrNone)
	for _, c := range []int{1, 2, 63, 64, 1 << 20, api.MaxSeq - 1, api.MaxSeq} {
		for _, tasks := range []int{1, 2, maxTasks - 1, maxTasks} {
			for _, s := range []string{"", "x", bytesOf(maxText)} {
				wantLatest(t, diskOf(t, "m", manifestOf(c, tasks, s)), c, tasks, s, api.OK)
			}
		}
	}
}

// 22.3: a list of another make, or with numbers out of their bounds.
func TestLatestList(t *testing.T) {
	for _, body := range []string{
		"", "x", number(1), number(1) + number(1), text("x"), number(1) + text("x"),
		number(1) + text("x") + number(1), text("x") + number(1) + number(1), number(1) + number(1) + number(1),
		text("1") + number(1) + text("x"), number(1) + text("1") + text("x"), text("1") + text("1") + text("x"),
		number(1) + number(1) + text("x") + text(""), number(1) + number(1) + text("x") + number(0),
		number(1) + number(1) + text("x") + "\x00", number(1) + number(1) + text("x") + "\x01",
		number(1) + number(1) + "\x02\x04x", number(1) + number(1) + "\x02\x80\x02x",
		frameOf(number(1) + number(1) + text("x")),
	} {
		wantNoLatest(t, diskOf(t, "m", frameOf(body)), api.ErrCorrupt)
	}
	for _, c := range append(append([]int{0}, belows...), aboves...) {
		wantNoLatest(t, diskOf(t, "m", manifestOf(c, 1, "x")), api.ErrCorrupt)
	}
	for _, tasks := range append(append([]int{0, maxTasks + 1, math.MaxInt - maxTasks}, belows...), aboves...) {
		wantNoLatest(t, diskOf(t, "m", manifestOf(1, tasks, "x")), api.ErrCorrupt)
	}
}

// 22.3: a manifest that is not just one frame: each beginning, each other byte, each byte more.
func TestLatestFrame(t *testing.T) {
	whole := manifestOf(5, 2, "abc")
	for i := range len(whole) {
		for _, b := range []string{whole[:i], whole + whole[:i+1], whole[:i] + string([]byte{whole[i] ^ 1}) + whole[i+1:], whole[:i] + "-" + whole[i:]} {
			d := diskOf(t, "m", b, "s.5.0", frameOf(""), "s.6.0", frameOf(""))
			wantSame(t, d, func() {
				wantNoLatest(t, d, api.ErrCorrupt)
				wantPut(t, d, 7, 0, "", api.ErrCorrupt)
				wantCommit(t, d, 6, 1, "", api.ErrCorrupt)
				wantCollect(t, d, 0, api.ErrCorrupt)
			})
		}
	}
	wantLatest(t, diskOf(t, "m", whole), 5, 2, "abc", api.OK)
}

// 22.3: what Latest refuses Collect refuses, that there is none, too; then nothing is removed.
func TestCollectWithoutManifest(t *testing.T) {
	d := diskOf(t, "s.1.0", frameOf("a"), "s.2.0", frameOf("b"))
	wantSame(t, d, func() { wantCollect(t, d, 0, api.ErrNone) })
}

// 22.3: files of tasks of all other numbers, ahead and behind, go; those of the number that counts stay, of tasks that it does not have, too.
func TestCollect(t *testing.T) {
	d := committed(t, 5, "a", "b")
	wantCollect(t, d, 0, api.OK)
	kept := []string{"m", manifestOf(5, 2, "5"), "s.5.0", frameOf("a"), "s.5.1", frameOf("b"), "s.5.2", "x", "s.5.32", ""}
	want(t, d.Write("s.5.2", 0, "x"), api.OK)
	want(t, d.Write("s.5.32", 0, ""), api.OK)
	for _, c := range []int{1, 4, 6, 50, 55, api.MaxSeq} {
		for _, task := range []int{0, 1, 9, 10, maxTask} {
			want(t, d.Write(fileOf(c, task), 0, strconv.Itoa(c)), api.OK)
		}
	}
	want(t, d.Sync(), api.OK)
	wantCollect(t, d, 30, api.OK)
	wantFiles(t, d, kept...)
	wantWaiting(t, d, 30)
	wantCollect(t, d, 0, api.OK)
	wantFiles(t, d, kept...)
}

// 22.3: only names that are s.c.t, of numbers that Put takes, written as they are, are those of tasks' files.
func TestCollectNames(t *testing.T) {
	for _, name := range []string{
		"s.2.0", "s.2.1", "s.3.9", "s.3.10", "s.3.32", "s.10.0", "s.1073741824.0", "s.1073741824.32", "s.1073741823.31",
	} {
		d := diskOf(t, "m", manifestOf(1, 1, ""), name, "")
		wantCollect(t, d, 1, api.OK)
		wantFiles(t, d, "m", manifestOf(1, 1, ""))
	}
	for _, name := range []string{
		"s", "s.", "s.2", "s.2.", "s..", "s..0", "s...", ".2.0", "..", ".", "2.0", "s2.0", "s.20", "s20", "ss.2.0", "s.s.0", "s.2.s",
		"t.2.0", "a.2.0", "r.2.0", ".s.2.0", "s..2.0", "s.2..0", "s.2.0.", "s.2.0.0", "s.2.0.new", "s.2.0a", "s.2a.0", "s.a2.0", "s.2.a0",
		"s.02.0", "s.002.0", "s.2.00", "s.2.01", "s.2.032", "s.0.0", "s.00.0", "s.0.1", "s.2.33", "s.2.34", "s.2.40", "s.2.100", "s.2.320",
		"s.1073741825.0", "s.1073741834.0", "s.2147483648.0", "s.4294967298.0", "s.9223372036854775807.0", "s.9223372036854775808.0",
		"s.18446744073709551618.0", "s.2.4294967296", "s.2.1073741824", "s.2.1073741825", "s.2.18446744073709551616",
		"s.36893488147419103234.0", "s.2.9999999999999999999999999999", "s.99999999999999999999999999.0", "m.new", "ledger",
	} {
		d := diskOf(t, "m", manifestOf(1, 1, ""), name, "")
		wantSame(t, d, func() { wantCollect(t, d, 0, api.OK) })
	}
}

// 22.3: all names of up to five bytes, and each of three, of what a name of a task's file is made of.
func TestCollectShortNames(t *testing.T) {
	digits := "s.0123"
	var all func(name string)
	all = func(name string) {
		if name != "" {
			n := 0
			if isShortFile(name) && !strings.HasPrefix(name, "s.3.") {
				n = 1
			}
			d := diskOf(t, "m", manifestOf(3, 1, ""), name, "")
			wantCollect(t, d, n, api.OK)
			if len(d.Names()) != 2-n {
				t.Fatalf("%s: left are %q", name, d.Names())
			}
		}
		for i := 0; i < len(digits) && len(name) < 6; i++ {
			all(name + digits[i:i+1])
		}
	}
	all("")
}

// isShortFile tells of names of up to six bytes whether they are of a task's file, by what Go's numbers look like.
func isShortFile(name string) bool {
	parts := strings.Split(name, ".")
	if len(parts) != 3 || parts[0] != "s" {
		return false
	}
	c, e := strconv.Atoi(parts[1])
	task, f := strconv.Atoi(parts[2])
	return e == nil && f == nil && name == fileOf(c, task) && c > 0 && task <= maxTask
}

// 22.3: by names: those that the fuse lets through go first, "s.10.0" ahead of "s.2.0".
func TestCollectOrder(t *testing.T) {
	order := []string{"s.10.0", "s.100.9", "s.2.0", "s.2.1", "s.2.10", "s.2.2", "s.9.0"}
	for fuse := range len(order) + 1 {
		files := []string{"m", manifestOf(5, 1, ""), "s.5.0", ""}
		d := diskOf(t, files...)
		for k := range order {
			want(t, d.Write(order[len(order)-1-k], 0, ""), api.OK)
		}
		want(t, d.Fuse(fuse), api.OK)
		if fuse < len(order) {
			wantCollect(t, d, 0, api.ErrDown)
		} else {
			wantCollect(t, d, len(order), api.OK)
		}
		for _, name := range order[fuse:] {
			files = append(files, name, "")
		}
		wantFiles(t, d, files...)
	}
}

// 22.3: as many changes wait as may be; nothing to remove is no change.
func TestCollectFull(t *testing.T) {
	d := committed(t, 5, "a")
	wantPut(t, d, 6, 0, "b", api.OK)
	wantPut(t, d, 7, 0, "c", api.OK)
	waitFor(t, d, api.MaxWrites-1)
	wantCollect(t, d, 0, api.ErrFull)
	wantRead(t, d, 6, 0, "", api.ErrNone)
	wantRead(t, d, 7, 0, "c", api.OK)
	wantSame(t, d, func() { wantCollect(t, d, 0, api.ErrFull) })
	want(t, d.Sync(), api.OK)
	wantCollect(t, d, 1, api.OK)
	bringDown(t, d)
	wantCollect(t, d, 0, api.OK)
	wantLatest(t, d, 5, 1, "5", api.OK)
	wantRead(t, d, 5, 0, "a", api.OK)
}

// 22.3: what is collected may come back behind a crash, and is collected again.
func TestCollectAgain(t *testing.T) {
	d := committed(t, 1, "a", "b")
	commit(t, d, 2, "c")
	wantCollect(t, d, 2, api.OK)
	d.Crash(1, -1)
	wantRead(t, d, 1, 0, "", api.ErrNone)
	wantRead(t, d, 1, 1, "b", api.OK)
	wantLatest(t, d, 2, 1, "2", api.OK)
	wantCollect(t, d, 1, api.OK)
	want(t, d.Sync(), api.OK)
	d.Crash(0, -1)
	wantCollect(t, d, 0, api.OK)
}
