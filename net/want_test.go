package net_test

import (
	"math"
	"testing"

	"weaver/api"
	"weaver/net"
)

// wrongs number nothing, in a net of any size and on any way.
var wrongs = []int{math.MinInt, math.MinInt + 1, math.MinInt32, -api.MaxNodes, -2, -1, api.MaxItems, api.MaxItems + 1, 1 << 16, 1<<31 - 1, 1 << 31, 1 << 32, 1<<32 + 1, 1 << 62, math.MaxInt - 1, math.MaxInt}

// noNodes are numbers of no node of a net of so many.
func noNodes(nodes int) []int {
	return append([]int{nodes, nodes + 1, api.MaxNodes, api.MaxNodes + 1, api.MaxItems - 1}, wrongs...)
}

func made(t *testing.T, nodes int) *net.Net {
	t.Helper()
	n, e := net.New(nodes)
	if n == nil || e != api.OK {
		t.Fatalf("New(%d) = a net: %v, %d", nodes, n != nil, e)
	}
	return n
}

func wantSend(t *testing.T, n *net.Net, from, to int, b string, want api.Errno) {
	t.Helper()
	if e := n.Send(from, to, b); e != want {
		t.Fatalf("Send(%d, %d, %.40q) = %d, want %d", from, to, b, e, want)
	}
}

func wantWay(t *testing.T, n *net.Net, to, want int) {
	t.Helper()
	if w, e := n.Way(to); w != want || e != api.OK {
		t.Fatalf("Way(%d) = %d, %d, want %d", to, w, e, want)
	}
}

func wantTake(t *testing.T, n *net.Net, to, i, from int, b string) {
	t.Helper()
	if f, s, e := n.Take(to, i); f != from || s != b || e != api.OK {
		t.Fatalf("Take(%d, %d) = %d, %.40q, %d, want %d, %.40q", to, i, f, s, e, from, b)
	}
}

func wantNoTake(t *testing.T, n *net.Net, to, i int, want api.Errno) {
	t.Helper()
	if f, s, e := n.Take(to, i); f != 0 || s != "" || e != want {
		t.Fatalf("Take(%d, %d) = %d, %.40q, %d, want the error %d", to, i, f, s, e, want)
	}
}

func wantLose(t *testing.T, n *net.Net, to, i int, want api.Errno) {
	t.Helper()
	if e := n.Lose(to, i); e != want {
		t.Fatalf("Lose(%d, %d) = %d, want %d", to, i, e, want)
	}
}

func wantCopy(t *testing.T, n *net.Net, to, i int, want api.Errno) {
	t.Helper()
	if e := n.Copy(to, i); e != want {
		t.Fatalf("Copy(%d, %d) = %d, want %d", to, i, e, want)
	}
}

func wantClear(t *testing.T, n *net.Net, node, want int) {
	t.Helper()
	if gone, e := n.Clear(node); gone != want || e != api.OK {
		t.Fatalf("Clear(%d) = %d, %d, want %d", node, gone, e, want)
	}
}

// wantCounts asks twice, since asking changes nothing.
func wantCounts(t *testing.T, n *net.Net, sent, lost, copied, taken int) {
	t.Helper()
	for range 2 {
		if c := n.Counts(); c != [4]int{sent, lost, copied, taken} {
			t.Fatalf("Counts() = %v, want %v", c, [4]int{sent, lost, copied, taken})
		}
	}
}

// wantAll takes all packets from a way, from the front on: each one's sender, then its bytes.
func wantAll(t *testing.T, n *net.Net, to int, packets ...string) {
	t.Helper()
	wantWay(t, n, to, len(packets))
	for _, p := range packets {
		wantTake(t, n, to, 0, int(p[0]-'0'), p[1:])
	}
	wantWay(t, n, to, 0)
	wantNoTake(t, n, to, 0, api.ErrNone)
}

// fill puts copies of the first packet on a way, one sent by the node 0, until it has so many.
func fill(t *testing.T, n *net.Net, to, many int) {
	t.Helper()
	wantWay(t, n, to, 0)
	wantSend(t, n, 0, to, "first", api.OK)
	for range many - 1 {
		wantCopy(t, n, to, 0, api.OK)
	}
	wantWay(t, n, to, many)
}
