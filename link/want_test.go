package link_test

import (
	"math"
	"slices"
	"testing"

	"weaver/api"
	"weaver/link"
)

const (
	longest    = 60000 // the bytes of a text, at most
	maxStretch = 256   // a window, or a patience, at most
)

// wrongs are no epoch, no window, no patience and no tick.
var wrongs = []int{math.MinInt, math.MinInt + 1, math.MinInt32, -1 << 30, -256, -2, -1, 1<<30 + 1, 1<<31 - 1, 1 << 31, 1 << 32, 1<<32 + 1, 1 << 62, math.MaxInt - 1, math.MaxInt}

// numberOf writes a number as chapter 1 says, digit by digit of base 128.
func numberOf(n int64) string {
	u := uint64(2 * n)
	if n < 0 {
		u = uint64(-2*n - 1)
	}
	s := string([]byte{byte(u % 128)})
	for u /= 128; u > 0; u /= 128 {
		s = string([]byte{byte(u%128 + 128)}) + s
	}
	return s
}

func itemOf(n int64) string { return "\x01" + numberOf(n) }

func textOf(s string) string { return "\x02" + numberOf(int64(len(s))) + s }

func dataOf(epoch, number int, text string) string {
	return itemOf(0) + itemOf(int64(epoch)) + itemOf(int64(number)) + textOf(text)
}

func ackOf(epoch, number int) string {
	return itemOf(1) + itemOf(int64(epoch)) + itemOf(int64(number))
}

func sender(t *testing.T, epoch, window, patience int) *link.Sender {
	t.Helper()
	s, e := link.NewSender(epoch, window, patience)
	if s == nil || e != api.OK {
		t.Fatalf("NewSender(%d, %d, %d) = a sender: %v, %d", epoch, window, patience, s != nil, e)
	}
	return s
}

func receiver(t *testing.T, epoch, window int) *link.Receiver {
	t.Helper()
	r, e := link.NewReceiver(epoch, window)
	if r == nil || e != api.OK {
		t.Fatalf("NewReceiver(%d, %d) = a receiver: %v, %d", epoch, window, r != nil, e)
	}
	return r
}

func wantPush(t *testing.T, s *link.Sender, text string, want api.Errno) {
	t.Helper()
	if e := s.Push(text); e != want {
		t.Fatalf("Push(%.40q of %d) = %d, want %d", text, len(text), e, want)
	}
}

func pushAll(t *testing.T, s *link.Sender, texts ...string) {
	t.Helper()
	for _, x := range texts {
		wantPush(t, s, x, api.OK)
	}
}

func wantDue(t *testing.T, s *link.Sender, now int, want ...string) {
	t.Helper()
	if l, e := s.Due(now); !slices.Equal(l, want) || e != api.OK {
		t.Fatalf("Due(%d) = %.60q, %d, want %.60q", now, l, e, want)
	}
}

func wantNoDue(t *testing.T, s *link.Sender, now int) {
	t.Helper()
	if l, e := s.Due(now); len(l) != 0 || e != api.ErrRange {
		t.Fatalf("Due(%d) = %.60q, %d, want the error %d", now, l, e, api.ErrRange)
	}
}

func wantHeard(t *testing.T, s *link.Sender, packet string, want api.Errno) {
	t.Helper()
	if e := s.Heard(packet); e != want {
		t.Fatalf("Heard(%.60q) = %d, want %d", packet, e, want)
	}
}

// wantLeft asks twice, since asking changes nothing.
func wantLeft(t *testing.T, s *link.Sender, want int) {
	t.Helper()
	for range 2 {
		if n := s.Left(); n != want {
			t.Fatalf("Left() = %d, want %d", n, want)
		}
	}
}

func wantTake(t *testing.T, r *link.Receiver, packet, ack string, want ...string) {
	t.Helper()
	if l, a, e := r.Take(packet); !slices.Equal(l, want) || a != ack || e != api.OK {
		t.Fatalf("Take(%.60q) = %.60q, %q, %d, want %.60q, %q", packet, l, a, e, want, ack)
	}
}

func wantNoTake(t *testing.T, r *link.Receiver, packet string, want api.Errno) {
	t.Helper()
	if l, a, e := r.Take(packet); len(l) != 0 || a != "" || e != want {
		t.Fatalf("Take(%.60q) = %.60q, %q, %d, want the error %d", packet, l, a, e, want)
	}
}

func wantNext(t *testing.T, r *link.Receiver, want int) {
	t.Helper()
	for range 2 {
		if n := r.Next(); n != want {
			t.Fatalf("Next() = %d, want %d", n, want)
		}
	}
}
