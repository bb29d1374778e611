package net_test

import (
	"sync"
	"testing"
	"unsafe"

	"weaver/api"
)

// R4: bytes that are written over behind the call, or behind their length, change no packet.
func TestSentBytesAreNotKept(t *testing.T) {
	n, room := made(t, 2), []byte("zabcz")
	wantSend(t, n, 0, 1, unsafe.String(&room[1], 3), api.OK)
	if string(room) != "zabcz" {
		t.Errorf("what was sent is %q", room)
	}
	copy(room, "-----")
	wantTake(t, n, 1, 0, 0, "abc")
}

// R4: what is told of a packet shares nothing with what is told of its copies, nor with what was sent.
func TestToldBytesAreNew(t *testing.T) {
	n, b := made(t, 2), "abc"
	wantSend(t, n, 0, 1, b, api.OK)
	for range 4 {
		wantCopy(t, n, 1, 0, api.OK)
	}
	told := []string{b}
	for range 4 {
		_, s, _ := n.Take(1, 0)
		told = append(told, s)
	}
	for i, s := range told {
		for k := range i {
			if unsafe.StringData(s) == unsafe.StringData(told[k]) {
				t.Errorf("the texts %d and %d are one", k, i)
			}
		}
	}
	copy(unsafe.Slice(unsafe.StringData(told[4]), 3), "---")
	wantTake(t, n, 1, 0, 0, "abc")
}

// R4: counts that are written over change none that is kept.
func TestCountsAreNew(t *testing.T) {
	n := five(t)
	all := n.Counts()
	for k := range all {
		all[k] = -7
	}
	wantCounts(t, n, 5, 0, 0, 0)
}

// 18.2: whoever watches a net while another moves packets sees no count fall.
func TestCountsWatched(t *testing.T) {
	n := made(t, 2)
	moved := make(chan struct{})
	var watching sync.WaitGroup
	for range 4 {
		watching.Go(func() {
			for was := n.Counts(); ; {
				is := n.Counts()
				for k := range is {
					if is[k] < was[k] {
						t.Errorf("Counts() = %v, then %v", was, is)
						return
					}
				}
				was = is
				select {
				case <-moved:
					return
				default:
				}
			}
		})
	}
	for range 20000 {
		n.Send(0, 1, "a")
		n.Copy(1, 0)
		n.Take(1, 0)
		n.Lose(1, 0)
		n.Send(1, 0, "b")
		n.Clear(1)
	}
	close(moved)
	watching.Wait()
	wantCounts(t, n, 40000, 40000, 20000, 20000)
}
