package sink_test

import (
	"encoding/binary"
	"hash/crc32"
	"maps"
	"math"
	"reflect"
	"slices"
	"strconv"
	"strings"
	"testing"

	"weaver/api"
	"weaver/disk"
	"weaver/sink"
)

const maxHeld = 1000

// belows are no transactions' numbers, aboves more than any can have.
var (
	belows = []int{math.MinInt, math.MinInt + 1, math.MinInt32 - 1, math.MinInt32, -1 << 16, -2, -1}
	aboves = []int{api.MaxSeq + 1, 1<<31 - 1, 1 << 31, 1 << 32, 1<<32 + 1, 1 << 62, math.MaxInt - 1, math.MaxInt}
)

// frameOf writes a frame by chapter 1's words, by the library, to hold the files' bytes against.
func frameOf(body string) string {
	ahead := binary.BigEndian.AppendUint32([]byte("WF"), uint32(len(body)))
	sum := crc32.Checksum(append(slices.Clone(ahead), body...), crc32.MakeTable(crc32.Castagnoli))
	return string(binary.BigEndian.AppendUint32(ahead, sum)) + body
}

// number and text write items by chapter 1's words.
func number(n int) string {
	return "\x01" + groups(n)
}

func text(s string) string {
	return "\x02" + groups(len(s)) + s
}

func groups(n int) string {
	u := uint64(n) << 1
	if n < 0 {
		u = ^u
	}
	b := string([]byte{byte(u & 127)})
	for u >>= 7; u > 0; u >>= 7 {
		b = string([]byte{byte(u&127 | 128)}) + b
	}
	return b
}

// matchOf writes a match's bytes by chapter 2's words.
func matchOf(m api.Match) string {
	b := text(m.Key) + number(len(m.Stages))
	for _, stage := range m.Stages {
		b += number(len(stage))
		for _, place := range stage {
			b += number(place)
		}
	}
	return b
}

// listOf is what stands in the frame of a transaction's file.
func listOf(l ...api.Match) string {
	b := ""
	for _, m := range l {
		b += text(matchOf(m))
	}
	return b
}

func fileOf(l ...api.Match) string {
	return frameOf(listOf(l...))
}

func nameOf(c int) string { return "t." + strconv.Itoa(c) }

// committedOf are a transaction's frames in the ledger.
func committedOf(c int, l ...api.Match) string {
	b := frameOf(number(c))
	for _, m := range l {
		b += frameOf(matchOf(m))
	}
	return b + frameOf(number(c)+number(len(l)))
}

// one is a match of one place, two of two stages.
func one(n int) api.Match {
	return api.Match{Key: "k", Stages: [][]int{{n}}}
}

func two(key string, n int) api.Match {
	return api.Match{Key: key, Stages: [][]int{{n}, {n + 1, n + 300}}}
}

// ones are a number of matches that differ.
func ones(n int) []api.Match {
	var l []api.Match
	for i := range n {
		l = append(l, one(i))
	}
	return l
}

// longest has as many places as a match may, each of as many bytes as may be.
func longest(n int) api.Match {
	m := api.Match{Key: strings.Repeat("q", api.MaxName), Stages: [][]int{nil}}
	for i := range api.MaxWindow {
		m.Stages[0] = append(m.Stages[0], api.MaxSeq-api.MaxWindow-n+i)
	}
	return m
}

func want(t *testing.T, got, want api.Errno) {
	t.Helper()
	if got != want {
		t.Fatalf("answered %d, want %d", got, want)
	}
}

func opened(t *testing.T, d *disk.Disk) *sink.Sink {
	t.Helper()
	s, e := sink.Open(d)
	if s == nil || e != api.OK {
		t.Fatalf("Open() = %v, %d", s, e)
	}
	return s
}

func wantNotOpened(t *testing.T, d *disk.Disk, want api.Errno) {
	t.Helper()
	if s, e := sink.Open(d); s != nil || e != want {
		t.Fatalf("Open() = %v, %d, want %d", s, e, want)
	}
}

func put(t *testing.T, s *sink.Sink, l ...api.Match) {
	t.Helper()
	for i, m := range l {
		if e := s.Put(m); e != api.OK {
			t.Fatalf("Put of the match %d = %d", i, e)
		}
	}
}

// prepare puts matches and prepares them.
func prepare(t *testing.T, s *sink.Sink, c int, l ...api.Match) {
	t.Helper()
	put(t, s, l...)
	wantPrepare(t, s, c, api.OK)
}

func wantPrepare(t *testing.T, s *sink.Sink, c int, want api.Errno) {
	t.Helper()
	if e := s.Prepare(c); e != want {
		t.Fatalf("Prepare(%d) = %d, want %d", c, e, want)
	}
}

func wantCommit(t *testing.T, s *sink.Sink, c int, want api.Errno) {
	t.Helper()
	if e := s.Commit(c); e != want {
		t.Fatalf("Commit(%d) = %d, want %d", c, e, want)
	}
}

func wantRecover(t *testing.T, s *sink.Sink, c int, want api.Errno) {
	t.Helper()
	if e := s.Recover(c); e != want {
		t.Fatalf("Recover(%d) = %d, want %d", c, e, want)
	}
}

// wantLedger asks twice, since asking changes nothing.
func wantLedger(t *testing.T, s *sink.Sink, l ...api.Match) {
	t.Helper()
	for range 2 {
		if got := s.Ledger(); len(got) != len(l) || len(l) > 0 && !reflect.DeepEqual(got, l) {
			t.Fatalf("Ledger() = %.400s, want %.400s", told(got), told(l))
		}
	}
}

func told(l []api.Match) string {
	b := strconv.Itoa(len(l)) + ":"
	for _, m := range l {
		b += " " + strconv.Quote(matchOf(m))
	}
	return b
}

// wantState asks for the numbers: the last one, how many are held, those that are pending.
func wantState(t *testing.T, s *sink.Sink, last, held int, pending ...int) {
	t.Helper()
	for range 2 {
		if got := s.Last(); got != last {
			t.Fatalf("Last() = %d, want %d", got, last)
		}
		if got := s.Held(); got != held {
			t.Fatalf("Held() = %d, want %d", got, held)
		}
		if got := s.Pending(); !slices.Equal(got, pending) {
			t.Fatalf("Pending() = %d, want %d", got, pending)
		}
	}
}

func wantWaiting(t *testing.T, d *disk.Disk, n int) {
	t.Helper()
	if got := d.Waiting(); got != n {
		t.Fatalf("%d wait, want %d", got, n)
	}
}

func filesOf(d *disk.Disk) map[string]string {
	files := map[string]string{}
	for _, name := range d.Names() {
		files[name], _ = d.Read(name)
	}
	return files
}

// wantFiles asks for all files of a disk, name and bytes in turn.
func wantFiles(t *testing.T, d *disk.Disk, files ...string) {
	t.Helper()
	want := map[string]string{}
	for i := 0; i < len(files); i += 2 {
		want[files[i]] = files[i+1]
	}
	if got := filesOf(d); !maps.Equal(got, want) {
		t.Fatalf("files: %.400q, want %.400q", got, want)
	}
}

// wantSame asks whether a call left the sink, the files, and the changes that wait, as they were.
func wantSame(t *testing.T, d *disk.Disk, s *sink.Sink, call func()) {
	t.Helper()
	files, waiting := filesOf(d), d.Waiting()
	ledger, last, held, pending := s.Ledger(), s.Last(), s.Held(), s.Pending()
	call()
	if got := filesOf(d); !maps.Equal(got, files) {
		t.Fatalf("files: %.400q, were %.400q", got, files)
	}
	wantWaiting(t, d, waiting)
	wantLedger(t, s, ledger...)
	wantState(t, s, last, held, pending...)
}

// diskOf is a disk whose files, name and bytes in turn, are safe.
func diskOf(t *testing.T, files ...string) *disk.Disk {
	t.Helper()
	d := disk.New()
	for i := 0; i < len(files); i += 2 {
		want(t, d.Write(files[i], 0, files[i+1]), api.OK)
	}
	want(t, d.Sync(), api.OK)
	return d
}

// waitFor lets changes wait until there are n of them; none changes a byte of a file but of z.
func waitFor(t *testing.T, d *disk.Disk, n int) {
	t.Helper()
	for d.Waiting() < n {
		want(t, d.Write("z", 0, ""), api.OK)
	}
}

// bringDown leaves the disk's files as they are.
func bringDown(t *testing.T, d *disk.Disk) {
	t.Helper()
	want(t, d.Fuse(0), api.OK)
	want(t, d.Sync(), api.ErrDown)
}
