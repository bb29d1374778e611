package net_test

import (
	"testing"

	"weaver/api"
	"weaver/net"
)

// The chapter's example.
func TestExample(t *testing.T) {
	n := made(t, 2)
	wantSend(t, n, 0, 1, "a", api.OK)
	wantSend(t, n, 0, 1, "b", api.OK)
	wantCopy(t, n, 1, 0, api.OK)
	wantLose(t, n, 1, 0, api.OK)
	wantTake(t, n, 1, 1, 0, "a")
	wantWay(t, n, 1, 1)
	wantCounts(t, n, 2, 1, 1, 1)
}

// 18.1: each number of nodes up to api.MaxNodes may be; nothing is on its way, nothing counted.
func TestNew(t *testing.T) {
	for nodes := 1; nodes <= api.MaxNodes; nodes++ {
		n := made(t, nodes)
		for node := range nodes {
			wantWay(t, n, node, 0)
			wantNoTake(t, n, node, 0, api.ErrNone)
			wantLose(t, n, node, 0, api.ErrNone)
			wantCopy(t, n, node, 0, api.ErrNone)
			wantClear(t, n, node, 0)
		}
		wantCounts(t, n, 0, 0, 0, 0)
	}
}

// 18.1, R5: beside the error there is no net.
func TestWrongNew(t *testing.T) {
	for _, nodes := range append([]int{0, api.MaxNodes + 1}, wrongs...) {
		if n, e := net.New(nodes); n != nil || e != api.ErrRange {
			t.Errorf("New(%d) = a net: %v, %d, want the error %d", nodes, n != nil, e, api.ErrRange)
		}
	}
}

// 18.1, 18.2: from each node to each other, and to itself, a packet goes its way, and no other.
func TestSend(t *testing.T) {
	for nodes := 1; nodes <= api.MaxNodes; nodes++ {
		for from := range nodes {
			for to := range nodes {
				n := made(t, nodes)
				wantSend(t, n, from, to, "\x00\xffx", api.OK)
				for other := range nodes {
					if other != to {
						wantWay(t, n, other, 0)
						wantNoTake(t, n, other, 0, api.ErrNone)
					}
				}
				wantCounts(t, n, 1, 0, 0, 0)
				wantWay(t, n, to, 1)
				wantTake(t, n, to, 0, from, "\x00\xffx")
				wantWay(t, n, to, 0)
				wantCounts(t, n, 1, 0, 0, 1)
			}
		}
	}
}

// 18.1: a packet is the last on its way; an empty one, and the same one again, is one as well.
func TestSendInOrder(t *testing.T) {
	n := made(t, 3)
	for _, x := range []struct {
		from, to int
		b        string
	}{{0, 1, "a"}, {2, 1, "b"}, {0, 2, "c"}, {1, 1, ""}, {0, 1, "a"}, {2, 0, "d"}, {0, 1, "e"}, {2, 2, "f"}} {
		wantSend(t, n, x.from, x.to, x.b, api.OK)
	}
	wantCounts(t, n, 8, 0, 0, 0)
	wantAll(t, n, 1, "0a", "2b", "1", "0a", "0e")
	wantAll(t, n, 2, "0c", "2f")
	wantAll(t, n, 0, "2d")
	wantCounts(t, n, 8, 0, 0, 8)
}

// five is a net of three nodes, with the packets 0a, 2b, 1c, 0d, 2e on their way to the node 1.
func five(t *testing.T) *net.Net {
	t.Helper()
	n := made(t, 3)
	for i, from := range []int{0, 2, 1, 0, 2} {
		wantSend(t, n, from, 1, "abcde"[i:i+1], api.OK)
	}
	return n
}

// 18.2: a packet is taken from any place of its way; those behind it come one up.
func TestTake(t *testing.T) {
	for i, want := range [][]string{{"2b", "1c", "0d", "2e"}, {"0a", "1c", "0d", "2e"}, {"0a", "2b", "0d", "2e"}, {"0a", "2b", "1c", "2e"}, {"0a", "2b", "1c", "0d"}} {
		n := five(t)
		wantTake(t, n, 1, i, []int{0, 2, 1, 0, 2}[i], "abcde"[i:i+1])
		wantCounts(t, n, 5, 0, 0, 1)
		wantNoTake(t, n, 1, 4, api.ErrNone)
		wantAll(t, n, 1, want...)
		wantCounts(t, n, 5, 0, 0, 5)
	}
}

// 18.2: a packet is lost from any place likewise.
func TestLose(t *testing.T) {
	for i, want := range [][]string{{"2b", "1c", "0d", "2e"}, {"0a", "1c", "0d", "2e"}, {"0a", "2b", "0d", "2e"}, {"0a", "2b", "1c", "2e"}, {"0a", "2b", "1c", "0d"}} {
		n := five(t)
		wantLose(t, n, 1, i, api.OK)
		wantCounts(t, n, 5, 1, 0, 0)
		wantLose(t, n, 1, 4, api.ErrNone)
		wantAll(t, n, 1, want...)
		wantCounts(t, n, 5, 1, 0, 4)
	}
}

// 18.2: a packet that is copied stays where it is; one like it, its sender too, is the last.
func TestCopy(t *testing.T) {
	for i, like := range []string{"0a", "2b", "1c", "0d", "2e"} {
		n := five(t)
		wantCopy(t, n, 1, 5, api.ErrNone)
		wantCopy(t, n, 1, i, api.OK)
		wantCounts(t, n, 5, 0, 1, 0)
		wantSend(t, n, 0, 1, "f", api.OK)
		wantCopy(t, n, 1, 5, api.OK)
		wantCounts(t, n, 6, 0, 2, 0)
		wantAll(t, n, 1, "0a", "2b", "1c", "0d", "2e", like, "0f", like)
		wantCounts(t, n, 6, 0, 2, 8)
	}
}

// 18.2: a copy is a packet of its own: it stays when the first one is lost or taken, and the other
// way round.
func TestCopyStays(t *testing.T) {
	n := made(t, 2)
	wantSend(t, n, 1, 0, "a", api.OK)
	wantCopy(t, n, 0, 0, api.OK)
	wantCopy(t, n, 0, 1, api.OK)
	wantLose(t, n, 0, 0, api.OK)
	wantTake(t, n, 0, 1, 1, "a")
	wantCopy(t, n, 0, 0, api.OK)
	wantAll(t, n, 0, "1a", "1a")
	wantCounts(t, n, 1, 1, 3, 3)
}

// 18.2: what goes to the node and what comes from it is lost, each packet once; all else stays, in
// its order.
func TestClear(t *testing.T) {
	for node, x := range []struct {
		gone int
		left [3][]string
	}{
		{10, [3][]string{nil, {"11", "21", "11", "21"}, {"12", "22", "12", "22"}}},
		{10, [3][]string{{"00", "20", "00", "20"}, nil, {"02", "22", "02", "22"}}},
		{10, [3][]string{{"00", "10", "00", "10"}, {"01", "11", "01", "11"}, nil}},
	} {
		n := made(t, 3)
		for range 2 {
			for from := range 3 {
				for to := range 3 {
					wantSend(t, n, from, to, "012"[to:to+1], api.OK)
				}
			}
		}
		wantClear(t, n, node, x.gone)
		wantCounts(t, n, 18, x.gone, 0, 0)
		wantClear(t, n, node, 0)
		wantCounts(t, n, 18, x.gone, 0, 0)
		for to, left := range x.left {
			wantAll(t, n, to, left...)
		}
		wantCounts(t, n, 18, x.gone, 0, 18-x.gone)
	}
}

// 18.2: a node that was cleared is sent to, and sends, as before.
func TestBehindClear(t *testing.T) {
	n := five(t)
	wantCopy(t, n, 1, 2, api.OK)
	wantSend(t, n, 1, 0, "x", api.OK)
	wantClear(t, n, 1, 7)
	wantSend(t, n, 1, 0, "y", api.OK)
	wantSend(t, n, 2, 1, "z", api.OK)
	wantSend(t, n, 1, 1, "w", api.OK)
	wantCounts(t, n, 9, 7, 1, 0)
	wantAll(t, n, 0, "1y")
	wantAll(t, n, 1, "2z", "1w")
	wantClear(t, n, 1, 0)
	wantCounts(t, n, 9, 7, 1, 3)
}

// 18.2: a net of one node clears all.
func TestClearTheOnlyNode(t *testing.T) {
	n := made(t, 1)
	wantSend(t, n, 0, 0, "a", api.OK)
	wantSend(t, n, 0, 0, "", api.OK)
	wantClear(t, n, 0, 2)
	wantAll(t, n, 0)
	wantCounts(t, n, 2, 2, 0, 0)
}

// R7: nets know nothing of one another.
func TestNetsAreApart(t *testing.T) {
	n, o := five(t), made(t, 3)
	wantWay(t, o, 1, 0)
	wantCounts(t, o, 0, 0, 0, 0)
	wantSend(t, o, 0, 1, "x", api.OK)
	wantCopy(t, o, 1, 0, api.OK)
	wantClear(t, n, 1, 5)
	wantAll(t, o, 1, "0x", "0x")
	wantCounts(t, o, 1, 0, 1, 2)
	wantCounts(t, n, 5, 5, 0, 0)
}
