package net_test

import (
	"strings"
	"testing"

	"weaver/api"
	"weaver/net"
)

// wantNoNode calls all there is with a node that there is not, with right and wrong numbers beside.
func wantNoNode(t *testing.T, n *net.Net, none, right int) {
	t.Helper()
	for _, b := range []string{"", "x", strings.Repeat("x", api.MaxFrame+1)} {
		wantSend(t, n, none, right, b, api.ErrNode)
		wantSend(t, n, right, none, b, api.ErrNode)
		wantSend(t, n, none, none, b, api.ErrNode)
	}
	if w, e := n.Way(none); w != 0 || e != api.ErrNode {
		t.Fatalf("Way(%d) = %d, %d, want the error %d", none, w, e, api.ErrNode)
	}
	if gone, e := n.Clear(none); gone != 0 || e != api.ErrNode {
		t.Fatalf("Clear(%d) = %d, %d, want the error %d", none, gone, e, api.ErrNode)
	}
	for _, i := range append([]int{0, 1, right, none}, wrongs...) {
		wantNoTake(t, n, none, i, api.ErrNode)
		wantLose(t, n, none, i, api.ErrNode)
		wantCopy(t, n, none, i, api.ErrNode)
	}
}

// 18.1, R1, R5, P1: a node that there is not comes ahead of all else that is wrong, in each call,
// and nothing changes.
func TestNoNode(t *testing.T) {
	for nodes := 1; nodes <= api.MaxNodes; nodes++ {
		n := made(t, nodes)
		last := nodes - 1
		wantSend(t, n, 0, last, "a", api.OK)
		wantSend(t, n, last, last, "b", api.OK)
		for _, none := range noNodes(nodes) {
			wantNoNode(t, n, none, 0)
			wantNoNode(t, n, none, last)
		}
		wantCounts(t, n, 2, 0, 0, 0)
		wantTake(t, n, last, 0, 0, "a")
		wantTake(t, n, last, 0, last, "b")
	}
}

// 18.2, R5, P1: numbers of no packet, on an empty way and on one with some; nothing changes.
func TestNoPacket(t *testing.T) {
	n := five(t)
	for _, i := range append([]int{0, 4, 5, 6, api.MaxItems - 1}, wrongs...) {
		for to := range 3 {
			if to == 1 && (i == 0 || i == 4) {
				continue
			}
			wantNoTake(t, n, to, i, api.ErrNone)
			wantLose(t, n, to, i, api.ErrNone)
			wantCopy(t, n, to, i, api.ErrNone)
		}
	}
	wantCounts(t, n, 5, 0, 0, 0)
	wantAll(t, n, 0)
	wantAll(t, n, 1, "0a", "2b", "1c", "0d", "2e")
	wantAll(t, n, 2)
}

// 18.1: a packet has at most api.MaxFrame bytes; a longer one is not sent.
func TestLongPacket(t *testing.T) {
	n := made(t, 2)
	long := strings.Repeat("\xffy", api.MaxFrame/2)
	wantSend(t, n, 0, 1, long, api.OK)
	for _, more := range []int{1, 2, api.MaxFrame, api.MaxBytes, 1 << 22} {
		wantSend(t, n, 0, 1, long+strings.Repeat("z", more), api.ErrLong)
	}
	wantSend(t, n, 1, 1, long[1:], api.OK)
	wantWay(t, n, 1, 2)
	wantCounts(t, n, 2, 0, 0, 0)
	wantTake(t, n, 1, 0, 0, long)
	wantTake(t, n, 1, 0, 1, long[1:])
}

// 18.1, 18.2: a way has at most api.MaxItems packets, sent or copied; the other ways have room.
func TestFullWay(t *testing.T) {
	n := made(t, 3)
	fill(t, n, 1, api.MaxItems-1)
	wantSend(t, n, 2, 1, "last", api.OK)
	for range 2 {
		wantSend(t, n, 2, 1, "", api.ErrLong)
		wantSend(t, n, 1, 1, strings.Repeat("x", api.MaxFrame+1), api.ErrLong)
		for _, i := range []int{0, 1, api.MaxItems - 1} {
			wantCopy(t, n, 1, i, api.ErrLong)
		}
	}
	wantWay(t, n, 1, api.MaxItems)
	wantCounts(t, n, 2, 0, api.MaxItems-2, 0)
	wantSend(t, n, 1, 0, "x", api.OK)
	wantCopy(t, n, 0, 0, api.OK)
	wantSend(t, n, 1, 2, "y", api.OK)
	wantTake(t, n, 1, api.MaxItems-1, 2, "last")
	wantCopy(t, n, 1, api.MaxItems-2, api.OK)
	wantCopy(t, n, 1, 0, api.ErrLong)
	wantLose(t, n, 1, 0, api.OK)
	wantSend(t, n, 2, 1, "new", api.OK)
	wantTake(t, n, 1, api.MaxItems-1, 2, "new")
	wantCounts(t, n, 5, 1, api.MaxItems, 2)
	wantClear(t, n, 0, api.MaxItems+1)
	wantAll(t, n, 1)
	wantAll(t, n, 2, "1y")
}

// 18.2, R1: of a full way a number of no packet comes ahead of there being no room, a node that
// there is not ahead of both.
func TestOrderOfFullWay(t *testing.T) {
	n := made(t, 2)
	fill(t, n, 1, api.MaxItems)
	for _, i := range wrongs {
		wantNoTake(t, n, 1, i, api.ErrNone)
		wantLose(t, n, 1, i, api.ErrNone)
		wantCopy(t, n, 1, i, api.ErrNone)
		wantSend(t, n, i, 1, "", api.ErrNode)
	}
	wantCopy(t, n, 0, 0, api.ErrNone)
	wantCounts(t, n, 1, 0, api.MaxItems-1, 0)
}

// 18.2, P1: all ways full, of copies of the longest packets: one node is sent to and cleared.
func TestFullNet(t *testing.T) {
	n := made(t, api.MaxNodes)
	long := strings.Repeat("l", api.MaxFrame)
	for to := range api.MaxNodes {
		wantSend(t, n, to, to, long, api.OK)
		for from := range api.MaxNodes {
			if from != to {
				wantSend(t, n, from, to, "s", api.OK)
			}
		}
		for range api.MaxItems - api.MaxNodes {
			wantCopy(t, n, to, 0, api.OK)
		}
		wantSend(t, n, 0, to, "", api.ErrLong)
	}
	copies := api.MaxNodes * (api.MaxItems - api.MaxNodes)
	wantCounts(t, n, api.MaxNodes*api.MaxNodes, 0, copies, 0)
	wantTake(t, n, 5, api.MaxItems-1, 5, long)
	wantClear(t, n, 5, api.MaxItems-1+api.MaxNodes-1)
	wantWay(t, n, 5, 0)
	for to := range api.MaxNodes {
		if to != 5 {
			wantWay(t, n, to, api.MaxItems-1)
		}
	}
	wantCounts(t, n, api.MaxNodes*api.MaxNodes, api.MaxItems+api.MaxNodes-2, copies, 1)
}
