package snap_test

import (
	"testing"
	"unsafe"

	"weaver/api"
	"weaver/disk"
	"weaver/snap"
)

// R4: bytes that are written over behind the call, or behind their length, change no snapshot.
func TestBytesAreNotKept(t *testing.T) {
	d, room := disk.New(), []byte("zabcz")
	wantPut(t, d, 1, 0, unsafe.String(&room[1], 3), api.OK)
	wantCommit(t, d, 1, 1, unsafe.String(&room[2], 2), api.OK)
	if string(room) != "zabcz" {
		t.Errorf("what was handed in is %q", room)
	}
	copy(room, "-----")
	wantRead(t, d, 1, 0, "abc", api.OK)
	wantLatest(t, d, 1, 1, "bc", api.OK)
}

// R4: what is told shares nothing with what was handed in, nor with what was told before.
func TestToldBytesAreNew(t *testing.T) {
	d, b, s := disk.New(), "abc", "text"
	wantPut(t, d, 1, 0, b, api.OK)
	wantCommit(t, d, 1, 1, s, api.OK)
	all := []string{b, s}
	for range 3 {
		told, _ := snap.Read(d, 1, 0)
		_, _, text, _ := snap.Latest(d)
		for _, got := range []string{told, text} {
			for k, other := range all {
				if unsafe.StringData(got) == unsafe.StringData(other) {
					t.Errorf("the texts %d and %d are one", k, len(all))
				}
			}
			all = append(all, got)
		}
	}
}
