package credit_test

import (
	"math"
	"testing"

	"weaver/api"
	"weaver/credit"
)

// belows are no numbers of credits, aboves more than anybody can have.
var (
	belows = []int{math.MinInt, math.MinInt + 1, math.MinInt32 - 1, math.MinInt32, -1 << 16, -api.MaxCredit - 1, -api.MaxCredit, -2, -1}
	aboves = []int{api.MaxCredit + 1, api.MaxCredit + 2, 2 * api.MaxCredit, 1 << 16, 1<<31 - 1, 1 << 31, 1 << 32, 1<<32 + 1, 1 << 62, math.MaxInt - api.MaxCredit, math.MaxInt - 1, math.MaxInt}
)

func store(t *testing.T, capacity int) *credit.Store {
	t.Helper()
	s, e := credit.NewStore(capacity)
	if s == nil || e != api.OK {
		t.Fatalf("NewStore(%d) = a store: %v, %d", capacity, s != nil, e)
	}
	return s
}

func purse(t *testing.T) *credit.Purse {
	t.Helper()
	p := credit.NewPurse()
	if p == nil {
		t.Fatal("NewPurse() = nil")
	}
	return p
}

func wantGive(t *testing.T, s *credit.Store, most, want int, e api.Errno) {
	t.Helper()
	if n, got := s.Give(most); n != want || got != e {
		t.Fatalf("Give(%d) = %d, %d, want %d, %d", most, n, got, want, e)
	}
}

func wantPut(t *testing.T, s *credit.Store, text string, want api.Errno) {
	t.Helper()
	if e := s.Put(text); e != want {
		t.Fatalf("Put(%.40q) = %d, want %d", text, e, want)
	}
}

func wantTake(t *testing.T, s *credit.Store, want string, e api.Errno) {
	t.Helper()
	if text, got := s.Take(); text != want || got != e {
		t.Fatalf("Take() = %.40q, %d, want %.40q, %d", text, got, want, e)
	}
}

// wantPeek asks twice, since asking changes nothing.
func wantPeek(t *testing.T, s *credit.Store, want string, e api.Errno) {
	t.Helper()
	for range 2 {
		if text, got := s.Peek(); text != want || got != e {
			t.Fatalf("Peek() = %.40q, %d, want %.40q, %d", text, got, want, e)
		}
	}
}

func wantStore(t *testing.T, s *credit.Store, texts, owed int) {
	t.Helper()
	for range 2 {
		if n, m := s.Len(), s.Owed(); n != texts || m != owed {
			t.Fatalf("Len() = %d, Owed() = %d, want %d, %d", n, m, texts, owed)
		}
	}
}

// wantAll takes all texts from a store, and sees that no other is there.
func wantAll(t *testing.T, s *credit.Store, texts ...string) {
	t.Helper()
	owed := s.Owed()
	for k, text := range texts {
		wantStore(t, s, len(texts)-k, owed)
		wantPeek(t, s, text, api.OK)
		wantTake(t, s, text, api.OK)
	}
	wantStore(t, s, 0, owed)
	wantPeek(t, s, "", api.ErrNone)
	wantTake(t, s, "", api.ErrNone)
}

func wantAdd(t *testing.T, p *credit.Purse, n int, want api.Errno) {
	t.Helper()
	if e := p.Add(n); e != want {
		t.Fatalf("Add(%d) = %d, want %d", n, e, want)
	}
}

func wantSpend(t *testing.T, p *credit.Purse, want api.Errno) {
	t.Helper()
	if e := p.Spend(); e != want {
		t.Fatalf("Spend() = %d, want %d", e, want)
	}
}

func wantHas(t *testing.T, p *credit.Purse, want int) {
	t.Helper()
	for range 2 {
		if n := p.Has(); n != want {
			t.Fatalf("Has() = %d, want %d", n, want)
		}
	}
}
