package buffer_test

import (
	"slices"
	"testing"

	"weaver/api"
	"weaver/buffer"
)

const (
	least = -1 << 63
	most  = 1<<63 - 1
)

// noIDs are numbers that no entry ever has, none's own among them.
var noIDs = []int{-1, -2, least, api.MaxItems, api.MaxItems + 1, most}

func wantPut(t *testing.T, b *buffer.Buffer, stage, place, parent, want int) {
	t.Helper()
	if id, e := b.Put(stage, place, parent); id != want || e != api.OK {
		t.Fatalf("Put(%d, %d, %d): %d, %d, want %d", stage, place, parent, id, e, want)
	}
}

func wantNoPut(t *testing.T, b *buffer.Buffer, stage, place, parent int, want api.Errno) {
	t.Helper()
	if id, e := b.Put(stage, place, parent); id != 0 || e != want {
		t.Fatalf("Put(%d, %d, %d): %d, %d, want the error %d", stage, place, parent, id, e, want)
	}
}

func wantHold(t *testing.T, b *buffer.Buffer, id int, want api.Errno) {
	t.Helper()
	if e := b.Hold(id); e != want {
		t.Fatalf("Hold(%d): %d, want %d", id, e, want)
	}
}

func wantDrop(t *testing.T, b *buffer.Buffer, id, want int) {
	t.Helper()
	if gone, e := b.Drop(id); gone != want || e != api.OK {
		t.Fatalf("Drop(%d): %d, %d, want %d", id, gone, e, want)
	}
}

func wantNoDrop(t *testing.T, b *buffer.Buffer, id int, want api.Errno) {
	t.Helper()
	if gone, e := b.Drop(id); gone != 0 || e != want {
		t.Fatalf("Drop(%d): %d, %d, want the error %d", id, gone, e, want)
	}
}

func wantWay(t *testing.T, b *buffer.Buffer, id int, want ...[2]int) {
	t.Helper()
	if way, e := b.Way(id); !slices.Equal(way, want) || e != api.OK {
		t.Fatalf("Way(%d): %v, %d, want %v", id, way, e, want)
	}
}

func wantCount(t *testing.T, b *buffer.Buffer, id, want int) {
	t.Helper()
	if n, e := b.Count(id); n != want || e != api.OK {
		t.Fatalf("Count(%d): %d, %d, want %d", id, n, e, want)
	}
}

func wantLen(t *testing.T, b *buffer.Buffer, want int) {
	t.Helper()
	if n := b.Len(); n != want {
		t.Fatalf("Len(): %d, want %d", n, want)
	}
}

// wantNone asks all that can be asked of a number that no entry has.
func wantNone(t *testing.T, b *buffer.Buffer, id int) {
	t.Helper()
	wantHold(t, b, id, api.ErrRef)
	wantNoDrop(t, b, id, api.ErrRef)
	if way, e := b.Way(id); len(way) != 0 || e != api.ErrRef {
		t.Fatalf("Way(%d): %v, %d, want the error %d", id, way, e, api.ErrRef)
	}
	if n, e := b.Count(id); n != 0 || e != api.ErrRef {
		t.Fatalf("Count(%d): %d, %d, want the error %d", id, n, e, api.ErrRef)
	}
	if id != -1 {
		wantNoPut(t, b, api.MaxStages-1, api.MaxSeq, id, api.ErrRef)
	}
}

// wantNothing is of a buffer without entries.
func wantNothing(t *testing.T, b *buffer.Buffer) {
	t.Helper()
	wantLen(t, b, 0)
	for id := range 20 {
		wantNone(t, b, id)
	}
	wantNone(t, b, api.MaxItems-1)
}

// row is a buffer with n entries without a parent: the number i has the place i. Each is held once.
func row(t *testing.T, n int) *buffer.Buffer {
	t.Helper()
	b := buffer.New()
	for i := range n {
		wantPut(t, b, 0, i, -1, i)
	}
	return b
}

// chain is a buffer with n entries, each the parent of the next one: the number i has the place i.
// Callers hold the last one alone.
func chain(t *testing.T, n int) *buffer.Buffer {
	t.Helper()
	b := buffer.New()
	for i := range n {
		wantPut(t, b, 0, i, i-1, i)
		if i > 0 {
			wantDrop(t, b, i-1, 0)
		}
	}
	return b
}
