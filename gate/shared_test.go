package gate_test

import (
	"runtime"
	"strconv"
	"strings"
	"testing"
	"unsafe"

	"weaver/api"
)

// R4: bytes that are written over behind the call, or behind their length, change no text.
func TestTextBytesAreNotKept(t *testing.T) {
	g, room := given(t, 1, 2, 1), []byte("zabcz")
	wantText(t, g, 0, unsafe.String(&room[1], 3), api.OK)
	if string(room) != "zabcz" {
		t.Errorf("what was handed in is %q", room)
	}
	copy(room, "-----")
	wantPullText(t, g, 0, "abc")
}

// R4: what Pull tells shares nothing with what was handed in, nor with what was told before.
func TestToldTextsAreNew(t *testing.T) {
	g, text := given(t, 2, 2, 1), "abc"
	for c := range 2 {
		lay(t, g, c, 1, text, text)
	}
	told := []string{text}
	for range 4 {
		_, got, _, _ := g.Pull()
		for k, other := range told {
			if unsafe.StringData(got) == unsafe.StringData(other) {
				t.Errorf("the texts %d and %d are one", k, len(told))
			}
		}
		told = append(told, got)
	}
}

// R4: what Blocked tells may be written over, its spare room too, and is another list each time.
func TestBlockedIsNew(t *testing.T) {
	g := given(t, 2, 2, 1)
	lay(t, g, 0, 1, "|")
	first, second := g.Blocked(), g.Blocked()
	first = first[:cap(first)]
	for k := range first {
		first[k] = k > 0
	}
	if !second[0] || second[1] {
		t.Errorf("the second list is %v", second)
	}
	wantBlocked(t, g, true, false)
	wantPullNone(t, g)
}

// inUse is how many bytes the program has, behind a collection of what nobody asks for any more.
func inUse() int64 {
	runtime.GC()
	var m runtime.MemStats
	runtime.ReadMemStats(&m)
	return int64(m.HeapAlloc)
}

// 21.3: texts that were pulled, or were refused, are kept no more, not even the last one of each
// channel: of 256 with 60000 bytes each nothing is left.
func TestNothingIsKept(t *testing.T) {
	g := given(t, maxChannels, 4, 1)
	first := inUse()
	for k := range 4 {
		for c := range maxChannels {
			wantText(t, g, c, strings.Repeat(strconv.Itoa(k), maxText), api.OK)
		}
	}
	for k := range 4 {
		for c := range maxChannels {
			wantText(t, g, c, strings.Repeat("-", maxText), api.ErrCredit)
			wantPullText(t, g, c, strings.Repeat(strconv.Itoa(k), maxText))
		}
	}
	if more := inUse() - first; more > 10*maxText {
		t.Errorf("%d bytes more are in use", more)
	}
	runtime.KeepAlive(g)
}
