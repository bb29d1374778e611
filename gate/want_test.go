package gate_test

import (
	"math"
	"slices"
	"strings"
	"testing"

	"weaver/api"
	"weaver/gate"
)

const (
	maxChannels = 64
	maxText     = 60000
)

// belows are no numbers of anything, aboves more than anything can have.
var (
	belows = []int{math.MinInt, math.MinInt + 1, math.MinInt32 - 1, math.MinInt32, -1 << 16, -maxChannels, -2, -1}
	aboves = []int{api.MaxSeq + 1, 1<<31 - 1, 1 << 31, 1 << 32, 1<<32 + 1, 1 << 62, math.MaxInt - 1, math.MaxInt}
)

// long has one byte more than a text may have.
var long = strings.Repeat("l", maxText+1)

func newGate(t *testing.T, channels, capacity, first int) *gate.Gate {
	t.Helper()
	g, e := gate.New(channels, capacity, first)
	if g == nil || e != api.OK {
		t.Fatalf("New(%d, %d, %d) = a gate: %v, %d", channels, capacity, first, g != nil, e)
	}
	return g
}

// given is a gate whose credits are all given.
func given(t *testing.T, channels, capacity, first int) *gate.Gate {
	t.Helper()
	g := newGate(t, channels, capacity, first)
	for c := range channels {
		wantGive(t, g, c, capacity, capacity, api.OK)
	}
	return g
}

func wantNoGate(t *testing.T, channels, capacity, first int) {
	t.Helper()
	if g, e := gate.New(channels, capacity, first); g != nil || e != api.ErrRange {
		t.Fatalf("New(%d, %d, %d) = no gate: %v, %d, want %d", channels, capacity, first, g == nil, e, api.ErrRange)
	}
}

func wantGive(t *testing.T, g *gate.Gate, channel, most, want int, e api.Errno) {
	t.Helper()
	if n, got := g.Give(channel, most); n != want || got != e {
		t.Fatalf("Give(%d, %d) = %d, %d, want %d, %d", channel, most, n, got, want, e)
	}
}

func wantText(t *testing.T, g *gate.Gate, channel int, text string, want api.Errno) {
	t.Helper()
	if e := g.Text(channel, text); e != want {
		t.Fatalf("Text(%d, %.40q) = %d, want %d", channel, text, e, want)
	}
}

func wantBarrier(t *testing.T, g *gate.Gate, channel, n int, want api.Errno) {
	t.Helper()
	if e := g.Barrier(channel, n); e != want {
		t.Fatalf("Barrier(%d, %d) = %d, want %d", channel, n, e, want)
	}
}

func wantPull(t *testing.T, g *gate.Gate, channel int, text string, barrier int, e api.Errno) {
	t.Helper()
	if c, s, n, got := g.Pull(); c != channel || s != text || n != barrier || got != e {
		t.Fatalf("Pull() = %d, %.40q, %d, %d, want %d, %.40q, %d, %d", c, s, n, got, channel, text, barrier, e)
	}
}

func wantPullText(t *testing.T, g *gate.Gate, channel int, text string) {
	t.Helper()
	wantPull(t, g, channel, text, 0, api.OK)
}

func wantPullBarrier(t *testing.T, g *gate.Gate, barrier int) {
	t.Helper()
	wantPull(t, g, -1, "", barrier, api.OK)
}

// wantPullNone asks twice, since such a Pull changes nothing.
func wantPullNone(t *testing.T, g *gate.Gate) {
	t.Helper()
	for range 2 {
		wantPull(t, g, 0, "", 0, api.ErrNone)
	}
}

// wantBlocked asks twice, since asking changes nothing.
func wantBlocked(t *testing.T, g *gate.Gate, want ...bool) {
	t.Helper()
	for range 2 {
		if l := g.Blocked(); !slices.Equal(l, want) {
			t.Fatalf("Blocked() = %v, want %v", l, want)
		}
	}
}

func wantLen(t *testing.T, g *gate.Gate, channel, want int, e api.Errno) {
	t.Helper()
	for range 2 {
		if n, got := g.Len(channel); n != want || got != e {
			t.Fatalf("Len(%d) = %d, %d, want %d, %d", channel, n, got, want, e)
		}
	}
}

func wantLens(t *testing.T, g *gate.Gate, lens ...int) {
	t.Helper()
	for c, n := range lens {
		wantLen(t, g, c, n, api.OK)
	}
	wantLen(t, g, len(lens), 0, api.ErrGate)
}

// lay puts items on a channel, each by its first byte: a barrier ("|", of the number n and those
// behind it) or a text.
func lay(t *testing.T, g *gate.Gate, channel, n int, items ...string) {
	t.Helper()
	for _, s := range items {
		if s == "|" {
			wantBarrier(t, g, channel, n, api.OK)
			n++
		} else {
			wantText(t, g, channel, s, api.OK)
		}
	}
}
