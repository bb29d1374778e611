package disk_test

import (
	"maps"
	"math"
	"slices"
	"strconv"
	"strings"
	"testing"
	"unsafe"

	"weaver/api"
	"weaver/disk"
)

// state is a disk's files, as its calls tell them.
func state(t *testing.T, d *disk.Disk) map[string]string {
	t.Helper()
	out := map[string]string{}
	l := d.Names()
	for i, name := range l {
		if i > 0 && l[i-1] >= name {
			t.Fatalf("names do not rise: %q", l)
		}
		s, e := d.Read(name)
		if e != api.OK {
			t.Fatalf("Read(%q) = %d, and the name is told", name, e)
		}
		out[name] = s
	}
	return out
}

func wantState(t *testing.T, d *disk.Disk, want map[string]string) {
	t.Helper()
	if got := state(t, d); !maps.Equal(got, want) {
		t.Errorf("files: %.200q, want %.200q", got, want)
	}
}

func want(t *testing.T, got, want api.Errno) {
	t.Helper()
	if got != want {
		t.Errorf("answered %d, want %d", got, want)
	}
}

func wantWaiting(t *testing.T, d *disk.Disk, n int) {
	t.Helper()
	if got := d.Waiting(); got != n {
		t.Errorf("%d wait, want %d", got, n)
	}
}

// wantNoFile asks for a file that is not there.
func wantNoFile(t *testing.T, d *disk.Disk, name string, want api.Errno) {
	t.Helper()
	if s, e := d.Read(name); s != "" || e != want {
		t.Errorf("Read(%.40q) = %.40q, %d, want %d", name, s, e, want)
	}
}

// diskOf is a disk whose files, name and bytes in turn, are safe.
func diskOf(t *testing.T, files ...string) *disk.Disk {
	t.Helper()
	d := disk.New()
	for i := 0; i < len(files); i += 2 {
		want(t, d.Write(files[i], 0, files[i+1]), api.OK)
	}
	want(t, d.Sync(), api.OK)
	return d
}

func bytesOf(n int) string { return strings.Repeat("x", n) }

// 3.1: a new disk has nothing, is up, and takes as many calls as come.
func TestNew(t *testing.T) {
	d := disk.New()
	wantState(t, d, map[string]string{})
	wantWaiting(t, d, 0)
	wantNoFile(t, d, "a", api.ErrNone)
	for range 3 * api.MaxWrites {
		want(t, d.Write("a", 0, "x"), api.OK)
		want(t, d.Sync(), api.OK)
	}
	wantState(t, disk.New(), map[string]string{})
}

func badNames() []string {
	l := []string{"", strings.Repeat("q", api.MaxName+1), strings.Repeat(".", api.MaxName+1), bytesOf(1 << 16), "é", "aé", "a b", "a/b", "a\x00", strings.Repeat("q", api.MaxName-1) + "Q"}
	for c := range 256 {
		if strings.IndexByte("abcdefghijklmnopqrstuvwxyz0123456789.", byte(c)) < 0 {
			l = append(l, string([]byte{byte(c)}), string([]byte{'m', byte(c)}), string([]byte{byte(c), 'm'}))
		}
	}
	return l
}

// 3.1: names that may not be, in all calls that take names, ahead of everything else that is wrong.
func TestBadNames(t *testing.T) {
	for _, down := range []bool{false, true} {
		d := diskOf(t, "a", "xyz")
		if down {
			want(t, d.Fuse(0), api.OK)
			want(t, d.Sync(), api.ErrDown)
		}
		for _, s := range badNames() {
			for _, e := range []api.Errno{
				d.Write(s, 0, "n"), d.Write(s, -1, "n"), d.Write(s, 1, ""), d.Write(s, 0, bytesOf(api.MaxBytes+1)),
				d.Cut(s, 0), d.Cut(s, -1), d.Remove(s),
				d.Rename(s, "b"), d.Rename("a", s), d.Rename("none", s), d.Rename(s, "A"), d.Rename(s, s),
			} {
				want(t, e, api.ErrName)
			}
			wantNoFile(t, d, s, api.ErrName)
		}
		wantState(t, d, map[string]string{"a": "xyz"})
		wantWaiting(t, d, 0)
	}
}

// 3.1: names that may be, in all calls that take names.
func TestGoodNames(t *testing.T) {
	l := []string{".", "..", ".a", "a.", "0", "m.new", "s.1.0", strings.Repeat("q", api.MaxName), strings.Repeat(".", api.MaxName), "z0z" + strings.Repeat("9", api.MaxName-3)}
	for _, c := range "abcdefghijklmnopqrstuvwxyz0123456789." {
		l = append(l, string(c), "m"+string(c))
	}
	for _, s := range l {
		d := disk.New()
		want(t, d.Write(s, 0, "xyz"), api.OK)
		wantState(t, d, map[string]string{s: "xyz"})
		want(t, d.Cut(s, 2), api.OK)
		want(t, d.Rename(s, "other"), api.OK)
		wantState(t, d, map[string]string{"other": "xy"})
		want(t, d.Rename("other", s), api.OK)
		wantState(t, d, map[string]string{s: "xy"})
		want(t, d.Remove(s), api.OK)
		wantState(t, d, map[string]string{})
		wantNoFile(t, d, s, api.ErrNone)
	}
}

// 3.1: where a write may begin, of a file that is there, of one of no bytes, and of one that is not there.
func TestWritePlaces(t *testing.T) {
	for _, x := range []struct {
		name  string
		at    int
		whole string
	}{
		{"a", 0, "NNz"}, {"a", 1, "xNN"}, {"a", 2, "xyNN"}, {"a", 3, "xyzNN"}, {"a", 4, ""}, {"a", -1, ""}, {"a", math.MinInt, ""}, {"a", math.MaxInt, ""},
		{"b", 0, "NN"}, {"b", 1, ""}, {"b", -1, ""},
		{"c", 0, "NN"}, {"c", 1, ""}, {"c", -1, ""}, {"c", math.MaxInt, ""},
	} {
		d := diskOf(t, "a", "xyz", "b", "")
		files := map[string]string{"a": "xyz", "b": ""}
		if x.whole == "" {
			want(t, d.Write(x.name, x.at, "NN"), api.ErrRange)
			want(t, d.Write(x.name, x.at, ""), api.ErrRange)
			want(t, d.Write(x.name, x.at, bytesOf(api.MaxBytes+1)), api.ErrRange)
			wantWaiting(t, d, 0)
		} else {
			want(t, d.Write(x.name, x.at, "NN"), api.OK)
			wantWaiting(t, d, 1)
			files[x.name] = x.whole
		}
		wantState(t, d, files)
	}
}

// 3.1: data lies in the place of what stood there; no data changes no bytes, and makes a file.
func TestWriteLaysOver(t *testing.T) {
	d := diskOf(t, "a", "abcdef")
	want(t, d.Write("a", 2, "\x00\xff"), api.OK)
	wantState(t, d, map[string]string{"a": "ab\x00\xffef"})
	want(t, d.Write("a", 3, ""), api.OK)
	want(t, d.Write("a", 6, ""), api.OK)
	wantState(t, d, map[string]string{"a": "ab\x00\xffef"})
	want(t, d.Write("a", 0, "whole and more"), api.OK)
	want(t, d.Write("b", 0, ""), api.OK)
	want(t, d.Write("b", 0, ""), api.OK)
	wantState(t, d, map[string]string{"a": "whole and more", "b": ""})
	wantWaiting(t, d, 6)
}

// 3.1: all files together have at most api.MaxBytes bytes.
func TestFullOfBytes(t *testing.T) {
	d := disk.New()
	want(t, d.Write("a", 0, bytesOf(api.MaxBytes+1)), api.ErrFull)
	want(t, d.Write("a", 0, bytesOf(api.MaxBytes)), api.OK)
	want(t, d.Write("b", 0, ""), api.OK)
	for _, e := range []api.Errno{d.Write("b", 0, "n"), d.Write("c", 0, "n"), d.Write("a", api.MaxBytes, "n"), d.Write("a", api.MaxBytes-1, "nn"), d.Write("a", 0, bytesOf(api.MaxBytes+1))} {
		want(t, e, api.ErrFull)
	}
	wantWaiting(t, d, 2)
	wantState(t, d, map[string]string{"a": bytesOf(api.MaxBytes), "b": ""})
	// What lies over others needs no room.
	want(t, d.Write("a", 0, "N"), api.OK)
	want(t, d.Write("a", api.MaxBytes-2, "NN"), api.OK)
	want(t, d.Write("a", 0, bytesOf(api.MaxBytes)), api.OK)
	want(t, d.Write("a", api.MaxBytes, ""), api.OK)
	// What is cut off is room, and the bytes of all count, those that wait too.
	want(t, d.Cut("a", api.MaxBytes-3), api.OK)
	want(t, d.Write("b", 0, "1234"), api.ErrFull)
	want(t, d.Write("b", 0, "12"), api.OK)
	want(t, d.Write("c", 0, "12"), api.ErrFull)
	want(t, d.Write("a", api.MaxBytes-4, "123"), api.ErrFull)
	want(t, d.Write("a", api.MaxBytes-4, "12"), api.OK)
	want(t, d.Write("b", 2, "3"), api.ErrFull)
	want(t, d.Write("b", 1, "3"), api.OK)
	// So is what is removed, and what another one is put in the place of.
	want(t, d.Remove("b"), api.OK)
	want(t, d.Write("b", 0, "123"), api.ErrFull)
	want(t, d.Write("b", 0, "12"), api.OK)
	want(t, d.Rename("b", "a"), api.OK)
	want(t, d.Write("c", 0, bytesOf(api.MaxBytes-1)), api.ErrFull)
	want(t, d.Write("c", 0, bytesOf(api.MaxBytes-2)), api.OK)
	want(t, d.Sync(), api.OK)
	want(t, d.Write("d", 0, "n"), api.ErrFull)
}

// manyFiles is a disk with n files, all safe.
func manyFiles(t *testing.T, n int) *disk.Disk {
	t.Helper()
	d := disk.New()
	for i := range n {
		want(t, d.Write("f"+strconv.Itoa(i), 0, "x"), api.OK)
	}
	want(t, d.Sync(), api.OK)
	return d
}

// 3.1: there are at most api.MaxFiles files.
func TestFullOfFiles(t *testing.T) {
	d := manyFiles(t, api.MaxFiles)
	want(t, d.Write("new", 0, "x"), api.ErrFull)
	want(t, d.Write("new", 0, ""), api.ErrFull)
	want(t, d.Write("new", 1, ""), api.ErrRange)
	wantWaiting(t, d, 0)
	if l := d.Names(); len(l) != api.MaxFiles || slices.Contains(l, "new") {
		t.Errorf("%q", l)
	}
	want(t, d.Write("f0", 0, "yy"), api.OK)
	want(t, d.Rename("f0", "f1"), api.OK)
	want(t, d.Write("new", 0, "x"), api.OK)
	want(t, d.Write("f0", 0, "x"), api.ErrFull)
	want(t, d.Rename("f2", "f0"), api.OK)
	want(t, d.Write("f2", 0, "x"), api.ErrFull)
	want(t, d.Remove("f0"), api.OK)
	want(t, d.Write("f2", 0, ""), api.OK)
	want(t, d.Write("f0", 0, "x"), api.ErrFull)
	// Behind a crash those that are there count.
	d.Crash(0, -1)
	want(t, d.Write("new", 0, "x"), api.ErrFull)
	want(t, d.Remove("f7"), api.OK)
	want(t, d.Write("new", 0, "x"), api.OK)
}

// waitingFull is a disk with files a (xyz) and b, and as many changes that wait as may.
func waitingFull(t *testing.T) *disk.Disk {
	t.Helper()
	d := diskOf(t, "a", "xyz", "b", "u")
	for i := range api.MaxWrites {
		wantWaiting(t, d, i)
		switch i % 5 {
		case 0:
			want(t, d.Write("a", 0, ""), api.OK)
		case 1:
			want(t, d.Rename("a", "a"), api.OK)
		case 2:
			want(t, d.Cut("a", 3), api.OK)
		case 3:
			want(t, d.Write("t", 0, "tt"), api.OK)
		case 4:
			want(t, d.Remove("t"), api.OK)
		}
	}
	wantWaiting(t, d, api.MaxWrites)
	return d
}

func wantAllFull(t *testing.T, d *disk.Disk) {
	t.Helper()
	for _, e := range []api.Errno{
		d.Write("a", 0, "n"), d.Write("a", 0, ""), d.Write("new", 0, "n"),
		d.Cut("a", 0), d.Cut("a", 3), d.Rename("a", "b"), d.Rename("a", "new"), d.Rename("a", "a"), d.Remove("a"),
	} {
		want(t, e, api.ErrFull)
	}
}

// wantRefusedFirst asks for what comes ahead of ErrFull and ErrDown.
func wantRefusedFirst(t *testing.T, d *disk.Disk) {
	t.Helper()
	for _, x := range []struct{ got, want api.Errno }{
		{d.Write("", 0, "n"), api.ErrName}, {d.Write("a", 4, "n"), api.ErrRange}, {d.Write("a", -1, "n"), api.ErrRange}, {d.Write("new", 1, "n"), api.ErrRange},
		{d.Cut("", 0), api.ErrName}, {d.Cut("none", 0), api.ErrNone}, {d.Cut("none", -1), api.ErrNone}, {d.Cut("a", -1), api.ErrRange}, {d.Cut("a", 4), api.ErrRange},
		{d.Rename("a", ""), api.ErrName}, {d.Rename("none", "b"), api.ErrNone}, {d.Rename("none", "none"), api.ErrNone},
		{d.Remove("A"), api.ErrName}, {d.Remove("none"), api.ErrNone},
	} {
		want(t, x.got, x.want)
	}
}

// 3.1, 3.2: at most api.MaxWrites changes wait, of all kinds together.
func TestFullOfChanges(t *testing.T) {
	d := waitingFull(t)
	before := state(t, d)
	wantAllFull(t, d)
	wantRefusedFirst(t, d)
	wantWaiting(t, d, api.MaxWrites)
	wantState(t, d, before)
	want(t, d.Sync(), api.OK)
	wantWaiting(t, d, 0)
	want(t, d.Write("a", 0, "n"), api.OK)
	wantWaiting(t, d, 1)

	d = waitingFull(t)
	d.Crash(api.MaxWrites, 0)
	wantWaiting(t, d, 0)
	wantState(t, d, before)
	want(t, d.Remove("a"), api.OK)
}

// 3.1, 3.2: ErrFull is answered ahead of ErrDown, and does not use up the fuse.
func TestFullComesAheadOfDown(t *testing.T) {
	d := waitingFull(t)
	want(t, d.Fuse(0), api.OK)
	wantAllFull(t, d)
	want(t, d.Fuse(1), api.OK)
	want(t, d.Sync(), api.OK)

	d = waitingFull(t)
	want(t, d.Fuse(0), api.OK)
	want(t, d.Sync(), api.ErrDown)
	wantAllFull(t, d)
	wantRefusedFirst(t, d)

	d = manyFiles(t, api.MaxFiles)
	want(t, d.Fuse(0), api.OK)
	want(t, d.Write("new", 0, ""), api.ErrFull)
	want(t, d.Write("f0", 0, bytesOf(api.MaxBytes+1)), api.ErrFull)
	want(t, d.Write("f0", 0, "n"), api.ErrDown)
	want(t, d.Write("new", 0, ""), api.ErrFull)
	want(t, d.Write("f0", 0, bytesOf(api.MaxBytes+1)), api.ErrFull)
}

// 3.2: a cut's lengths.
func TestCut(t *testing.T) {
	for length, left := range map[int]string{0: "", 1: "x", 2: "xy", 3: "xyz"} {
		d := diskOf(t, "a", "xyz", "b", "uv")
		want(t, d.Cut("a", length), api.OK)
		wantState(t, d, map[string]string{"a": left, "b": "uv"})
		wantWaiting(t, d, 1)
		// What was cut off is gone: it does not come back behind what is written.
		want(t, d.Write("a", length, "N"), api.OK)
		wantState(t, d, map[string]string{"a": left + "N", "b": "uv"})
	}
	d := diskOf(t, "a", "xyz", "b", "")
	for _, length := range []int{-1, 4, math.MinInt, math.MaxInt} {
		want(t, d.Cut("a", length), api.ErrRange)
		want(t, d.Cut("c", length), api.ErrNone)
	}
	want(t, d.Cut("c", 0), api.ErrNone)
	want(t, d.Cut("b", 1), api.ErrRange)
	wantWaiting(t, d, 0)
	wantState(t, d, map[string]string{"a": "xyz", "b": ""})
	want(t, d.Cut("b", 0), api.OK)
	wantWaiting(t, d, 1)
}

// 3.2: a rename to a name that is there, to one that is not, and to the same.
func TestRename(t *testing.T) {
	for to, left := range map[string]map[string]string{
		"a": {"a": "xyz", "b": "uv"}, "b": {"b": "xyz"}, "c": {"c": "xyz", "b": "uv"},
	} {
		d := diskOf(t, "a", "xyz", "b", "uv")
		want(t, d.Rename("a", to), api.OK)
		wantState(t, d, left)
		wantWaiting(t, d, 1)
	}
	d := diskOf(t, "a", "xyz", "b", "")
	want(t, d.Rename("c", "a"), api.ErrNone)
	want(t, d.Rename("c", "c"), api.ErrNone)
	wantWaiting(t, d, 0)
	want(t, d.Rename("b", "a"), api.OK)
	want(t, d.Rename("b", "a"), api.ErrNone)
	wantState(t, d, map[string]string{"a": ""})
	// Each of the two names is a file of its own afterwards.
	want(t, d.Rename("a", "b"), api.OK)
	want(t, d.Write("a", 0, "new"), api.OK)
	want(t, d.Write("b", 0, "moved"), api.OK)
	wantState(t, d, map[string]string{"a": "new", "b": "moved"})
}

// 3.2: a removal.
func TestRemove(t *testing.T) {
	d := diskOf(t, "a", "xyz", "b", "")
	want(t, d.Remove("c"), api.ErrNone)
	wantWaiting(t, d, 0)
	want(t, d.Remove("a"), api.OK)
	wantWaiting(t, d, 1)
	wantNoFile(t, d, "a", api.ErrNone)
	wantState(t, d, map[string]string{"b": ""})
	want(t, d.Remove("a"), api.ErrNone)
	want(t, d.Remove("b"), api.OK)
	wantState(t, d, map[string]string{})
	want(t, d.Write("a", 1, "n"), api.ErrRange)
	want(t, d.Write("a", 0, "n"), api.OK)
	wantState(t, d, map[string]string{"a": "n"})
}

// 3.3: names rise by their bytes.
func TestNamesRise(t *testing.T) {
	d := diskOf(t, "b", "", "ab", "1", "a", "2", "a.b", "3", "10", "4", "9", "5", ".", "6", "aa", "7", "z", "8")
	if l := d.Names(); !slices.Equal(l, []string{".", "10", "9", "a", "a.b", "aa", "ab", "b", "z"}) {
		t.Errorf("%q", l)
	}
	if l := disk.New().Names(); len(l) != 0 {
		t.Errorf("%q", l)
	}
}

// R4: a name and data are not kept; what is told is new memory.
func TestSharesNothing(t *testing.T) {
	room := []byte("name1name2data")
	name, to, data := unsafe.String(&room[0], 5), unsafe.String(&room[5], 5), unsafe.String(&room[10], 4)
	d := disk.New()
	want(t, d.Write(name, 0, data), api.OK)
	want(t, d.Write("cut", 0, data), api.OK)
	want(t, d.Rename(name, to), api.OK)
	want(t, d.Write(name, 0, data), api.OK)
	want(t, d.Cut(name, 3), api.OK)
	want(t, d.Write("gone", 0, data), api.OK)
	want(t, d.Remove("gone"), api.OK)
	copy(room, "##############")
	files := map[string]string{"name1": "dat", "name2": "data", "cut": "data"}
	wantState(t, d, files)
	l := d.Names()
	l[0] = "other"
	l = append(l[:1], "more")
	wantState(t, d, files)
	d.Crash(9, 0)
	wantState(t, d, files)

	x, _ := d.Read("name2")
	y, _ := d.Read("name2")
	l, m := d.Names(), d.Names()
	told := append(append([]string{x, y}, l...), m...)
	want(t, d.Write("name2", 0, "DATA"), api.OK)
	if x != "data" || y != "data" {
		t.Error(x, y)
	}
	for i := range told {
		for k := range i {
			if unsafe.StringData(told[i]) == unsafe.StringData(told[k]) {
				t.Errorf("%q and %q share memory", told[i], told[k])
			}
		}
	}
}

// R7: two disks are two.
func TestDisksAreApart(t *testing.T) {
	c, d := disk.New(), disk.New()
	want(t, c.Write("a", 0, "x"), api.OK)
	want(t, c.Fuse(0), api.OK)
	want(t, c.Sync(), api.ErrDown)
	wantState(t, d, map[string]string{})
	wantWaiting(t, d, 0)
	want(t, d.Sync(), api.OK)
	wantState(t, c, map[string]string{"a": "x"})
}
