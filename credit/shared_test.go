package credit_test

import (
	"runtime"
	"strconv"
	"strings"
	"testing"
	"unsafe"

	"weaver/api"
)

// R4: bytes that are written over behind the call, or behind their length, change no text.
func TestPutBytesAreNotKept(t *testing.T) {
	s, room := store(t, 1), []byte("zabcz")
	wantGive(t, s, 1, 1, api.OK)
	wantPut(t, s, unsafe.String(&room[1], 3), api.OK)
	if string(room) != "zabcz" {
		t.Errorf("what was put is %q", room)
	}
	copy(room, "-----")
	wantPeek(t, s, "abc", api.OK)
	wantTake(t, s, "abc", api.OK)
}

// R4: what Peek and Take tell shares nothing with what was put, nor with what was told before.
func TestToldTextsAreNew(t *testing.T) {
	s, text := store(t, 2), "abc"
	wantGive(t, s, 2, 2, api.OK)
	wantPut(t, s, text, api.OK)
	wantPut(t, s, text, api.OK)
	told := []string{text}
	for _, call := range []func() (string, api.Errno){s.Peek, s.Peek, s.Take, s.Peek, s.Take} {
		got, _ := call()
		for k, other := range told {
			if unsafe.StringData(got) == unsafe.StringData(other) {
				t.Errorf("the texts %d and %d are one", k, len(told))
			}
		}
		told = append(told, got)
	}
}

// R4: a text that was told and is written over is not the one that is kept.
func TestToldTextWrittenOver(t *testing.T) {
	s := store(t, 1)
	wantGive(t, s, 1, 1, api.OK)
	wantPut(t, s, "abc", api.OK)
	got, _ := s.Peek()
	copy(unsafe.Slice(unsafe.StringData(got), 3), "---")
	wantPeek(t, s, "abc", api.OK)
	wantTake(t, s, "abc", api.OK)
}

// inUse is how many bytes the program has, behind a collection of what nobody asks for any more.
func inUse() int64 {
	runtime.GC()
	var m runtime.MemStats
	runtime.ReadMemStats(&m)
	return int64(m.HeapAlloc)
}

// 20.1: texts that were taken, or were refused, are kept no more: of 256 with 100000 bytes each
// nothing is left.
func TestNothingIsKept(t *testing.T) {
	const long = 100000
	s := store(t, api.MaxCredit)
	wantGive(t, s, api.MaxCredit, api.MaxCredit, api.OK)
	first := inUse()
	for k := range api.MaxCredit {
		wantPut(t, s, strings.Repeat(strconv.Itoa(k%10), long), api.OK)
	}
	for k := range api.MaxCredit {
		wantPut(t, s, strings.Repeat("-", long), api.ErrCredit)
		wantTake(t, s, strings.Repeat(strconv.Itoa(k%10), long), api.OK)
	}
	if more := inUse() - first; more > 10*long {
		t.Errorf("%d bytes more are in use", more)
	}
	runtime.KeepAlive(s)
}
