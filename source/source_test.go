package source_test

import (
	"math"
	"slices"
	"strings"
	"testing"
	"unsafe"

	"weaver/api"
	"weaver/source"
)

func made(t *testing.T, parts int) *source.Source {
	t.Helper()
	s, e := source.New(parts)
	if s == nil || e != api.OK {
		t.Fatalf("New(%d) = a source: %v, %d", parts, s != nil, e)
	}
	return s
}

// of is an event that may be, told from others of its key by n.
func of(key string, n int64) api.Event {
	return api.Event{Key: key, Type: "t", N: [4]int64{n, -n, math.MaxInt64, math.MinInt64}, Text: "\x00" + key}
}

func wantPut(t *testing.T, s *source.Source, e api.Event, part, offset int) {
	t.Helper()
	if p, o, c := s.Put(e); p != part || o != offset || c != api.OK {
		t.Errorf("Put(%.40q) = %d, %d, %d, want %d, %d", e.Key, p, o, c, part, offset)
	}
}

func wantNotPut(t *testing.T, s *source.Source, e api.Event, want api.Errno) {
	t.Helper()
	ends := s.Ends()
	if p, o, c := s.Put(e); p != 0 || o != 0 || c != want {
		t.Errorf("Put(%.40q) = %d, %d, %d, want 0, 0, %d", e.Key, p, o, c, want)
	}
	wantEnds(t, s, ends...)
}

func wantEnds(t *testing.T, s *source.Source, ends ...int) {
	t.Helper()
	if got := s.Ends(); !slices.Equal(got, ends) {
		t.Errorf("Ends() = %v, want %v", got, ends)
	}
}

// fill puts events of the key "a" until its partition has n.
func fill(t *testing.T, s *source.Source, n int) {
	t.Helper()
	for i := s.Ends()[s.Part("a")]; i < n; i++ {
		wantPut(t, s, of("a", int64(i)), s.Part("a"), i)
	}
}

// 5.1: how many partitions there may be.
func TestNew(t *testing.T) {
	for _, parts := range []int{math.MinInt, -1, 0, api.MaxParts + 1, 1 << 31, math.MaxInt} {
		if s, e := source.New(parts); s != nil || e != api.ErrRange {
			t.Errorf("New(%d) = a source: %v, %d", parts, s != nil, e)
		}
	}
	for parts := 1; parts <= api.MaxParts; parts++ {
		wantEnds(t, made(t, parts), make([]int, parts)...)
	}
}

// 5.1: the chapter's sum of bytes, of any text.
func TestPart(t *testing.T) {
	for _, x := range []struct {
		key string
		sum int
	}{
		{"", 0}, {"a", 97}, {"b", 98}, {"ab", 195}, {"ba", 195}, {"\x00", 0}, {"\xff", 255}, {"\xff\xff", 510}, {"é", 0xc3 + 0xa9},
		{"A b", 65 + 32 + 98}, {strings.Repeat("z", api.MaxName), 122 * api.MaxName}, {strings.Repeat("\xff", 1<<20), 255 << 20},
	} {
		for parts := 1; parts <= api.MaxParts; parts++ {
			if got := made(t, parts).Part(x.key); got != x.sum%parts {
				t.Errorf("Part(%.40q) of %d = %d, want %d", x.key, parts, got, x.sum%parts)
			}
		}
	}
	s := made(t, 16)
	for c := range 256 {
		if got := s.Part(string([]byte{byte(c)})); got != c%16 {
			t.Errorf("Part of the byte %d = %d", c, got)
		}
	}
}

// 5.1: the chapter's example; each partition counts its own.
func TestPut(t *testing.T) {
	s := made(t, 2)
	wantPut(t, s, of("a", 0), 1, 0)
	wantEnds(t, s, 0, 1)
	wantPut(t, s, of("b", 1), 0, 0)
	wantPut(t, s, of("ab", 2), 1, 1)
	wantEnds(t, s, 1, 2)
	wantPut(t, s, of("a", 0), 1, 2) // the same one again is another one
	wantEnds(t, s, 1, 3)
	wantEnds(t, s, 1, 3)
}

// 5.1: what chapter 2 refuses, and what it lets pass.
func TestPutOfNoEvent(t *testing.T) {
	s := made(t, 3)
	wantPut(t, s, of("a", 0), 1, 0)
	long := strings.Repeat("q", api.MaxName+1)
	for _, e := range []api.Event{
		{}, {Key: "a"}, {Type: "t"}, {Key: "A", Type: "t"}, {Key: "a ", Type: "t"}, {Key: "a", Type: "T"}, {Key: "\xff", Type: "t"},
		{Key: long, Type: "t"}, {Key: "a", Type: long}, {Key: "a", Type: "t", Text: strings.Repeat("x", api.MaxText+1)},
	} {
		wantNotPut(t, s, e, api.ErrEvent)
	}
	wantPut(t, s, api.Event{Key: long[1:], Type: long[1:], Text: strings.Repeat("\xff", api.MaxText)}, 'q'*api.MaxName%3, 1)
	wantPut(t, s, api.Event{Key: "0", Type: "9"}, 0, 0)
}

// 5.1: a partition is full at api.MaxItems; the others are not, and what chapter 2 refuses comes first.
func TestPutIntoFull(t *testing.T) {
	s := made(t, 2)
	fill(t, s, api.MaxItems-1)
	wantEnds(t, s, 0, api.MaxItems-1)
	wantPut(t, s, of("c", 7), 1, api.MaxItems-1)
	wantNotPut(t, s, of("a", 1), api.ErrLong)
	wantNotPut(t, s, of("c", 1), api.ErrLong)
	wantNotPut(t, s, api.Event{Key: "a"}, api.ErrEvent)
	wantNotPut(t, s, api.Event{Key: "a", Type: "t", Text: strings.Repeat("x", api.MaxText+1)}, api.ErrEvent)
	wantPut(t, s, of("b", 1), 0, 0)
	wantEnds(t, s, 1, api.MaxItems)
	if l, e := s.Read(1, 0, math.MaxInt); e != api.OK || len(l) != api.MaxItems || l[0] != of("a", 0) || l[api.MaxItems-1] != of("c", 7) {
		t.Errorf("%d events, %d", len(l), e)
	}
}

// R7: sources know nothing of one another.
func TestSourcesAreApart(t *testing.T) {
	a, b := made(t, 2), made(t, 2)
	wantPut(t, a, of("a", 0), 1, 0)
	wantEnds(t, b, 0, 0)
	wantPut(t, b, of("a", 1), 1, 0)
	wantEvents(t, a, 1, of("a", 0))
	wantEvents(t, b, 1, of("a", 1))
}

// bytesAt is a text over bytes that can be changed behind its back.
func bytesAt(b []byte) string { return unsafe.String(unsafe.SliceData(b), len(b)) }

// R4: an event that was put stays, whatever becomes of the memory that it came in.
func TestPutKeepsNothingHandedIn(t *testing.T) {
	s := made(t, 2)
	key, kind, text := []byte("ab"), []byte("kind"), []byte("text")
	wantPut(t, s, api.Event{Key: bytesAt(key), Type: bytesAt(kind), Text: bytesAt(text)}, 1, 0)
	if string(key) != "ab" || string(kind) != "kind" || string(text) != "text" {
		t.Error("what was handed in is changed")
	}
	for _, b := range [][]byte{key, kind, text} {
		for i := range b {
			b[i] = '!'
		}
	}
	wantEvents(t, s, 1, api.Event{Key: "ab", Type: "kind", Text: "text"})
	if l, e := s.Below("ab", []int{0, 1}); len(l) != 1 || e != api.OK {
		t.Error(l, e)
	}
}
