package source_test

import (
	"math"
	"slices"
	"strings"
	"testing"
	"unsafe"

	"weaver/api"
	"weaver/source"
)

// wantEvents asks for all that a partition has, by every stretch of it.
func wantEvents(t *testing.T, s *source.Source, part int, events ...api.Event) {
	t.Helper()
	for from := range len(events) + 1 {
		for _, most := range []int{0, 1, 2, len(events) - from, len(events), len(events) + 1, math.MaxInt - 1, math.MaxInt} {
			wantRead(t, s, part, from, most, events[from:from+min(most, len(events)-from)])
		}
	}
	for _, from := range []int{math.MinInt, -1, len(events) + 1, math.MaxInt} {
		wantNotRead(t, s, part, from, 1, api.ErrOffset)
	}
}

func wantRead(t *testing.T, s *source.Source, part, from, most int, events []api.Event) {
	t.Helper()
	if l, e := s.Read(part, from, most); !slices.Equal(l, events) || e != api.OK {
		t.Errorf("Read(%d, %d, %d) = %v, %d, want %v", part, from, most, l, e, events)
	}
}

func wantNotRead(t *testing.T, s *source.Source, part, from, most int, want api.Errno) {
	t.Helper()
	if l, e := s.Read(part, from, most); len(l) != 0 || e != want {
		t.Errorf("Read(%d, %d, %d) = %v, %d, want none, %d", part, from, most, l, e, want)
	}
}

func wantBelow(t *testing.T, s *source.Source, key string, offsets []int, events ...api.Event) {
	t.Helper()
	if l, e := s.Below(key, offsets); !slices.Equal(l, events) || e != api.OK {
		t.Errorf("Below(%.40q, %v) = %v, %d, want %v", key, offsets, l, e, events)
	}
}

func wantNotBelow(t *testing.T, s *source.Source, key string, offsets []int, want api.Errno) {
	t.Helper()
	if l, e := s.Below(key, offsets); len(l) != 0 || e != want {
		t.Errorf("Below(%.40q, %v) = %v, %d, want none, %d", key, offsets, l, e, want)
	}
}

// few has two partitions: in 0 one event, in 1 four of three keys.
func few(t *testing.T) *source.Source {
	t.Helper()
	s := made(t, 2)
	wantPut(t, s, of("a", 0), 1, 0)
	wantPut(t, s, of("b", 1), 0, 0)
	wantPut(t, s, of("ab", 2), 1, 1)
	wantPut(t, s, of("a", 3), 1, 2)
	wantPut(t, s, of("ba", 4), 1, 3)
	return s
}

// 5.2: each partition has its own events, in the order in which they were put.
func TestRead(t *testing.T) {
	s := few(t)
	wantEvents(t, s, 0, of("b", 1))
	wantEvents(t, s, 1, of("a", 0), of("ab", 2), of("a", 3), of("ba", 4))
	wantEvents(t, made(t, 1), 0)
	wantEvents(t, made(t, api.MaxParts), api.MaxParts-1)
}

// 5.2: wrong arguments, each with wrong ones behind it.
func TestReadOfNothing(t *testing.T) {
	s := few(t)
	wrong := []int{math.MinInt, -2, -1, 9, math.MaxInt}
	for _, x := range wrong {
		wantNotRead(t, s, x, 0, 0, api.ErrRange)
		wantNotRead(t, s, 1, x, 0, api.ErrOffset)
		for _, y := range wrong {
			wantNotRead(t, s, x, y, 1, api.ErrRange)
			wantNotRead(t, s, x, 0, y, api.ErrRange)
			wantNotRead(t, s, 1, x, y, api.ErrOffset)
			wantNotRead(t, s, x, y, -1, api.ErrRange)
		}
	}
	wantNotRead(t, s, 2, 0, 1, api.ErrRange)
	wantNotRead(t, s, 2, 5, 1, api.ErrRange)
	wantNotRead(t, s, 0, 2, 1, api.ErrOffset) // partition 1 has that offset
	for _, most := range []int{math.MinInt, -2, -1} {
		wantNotRead(t, s, 1, 0, most, api.ErrRange)
		wantNotRead(t, s, 1, 4, most, api.ErrRange)
		wantNotRead(t, s, 1, 5, most, api.ErrOffset)
	}
	wantRead(t, s, 1, 4, 0, nil)
	wantRead(t, s, 1, 4, 1, nil)
}

// 5.3: the chapter's example, and each edge of offsets.
func TestBelow(t *testing.T) {
	s := few(t)
	wantBelow(t, s, "a", []int{0, 1}, of("a", 0))
	wantBelow(t, s, "ab", []int{1, 1})
	wantBelow(t, s, "ab", []int{1, 2}, of("ab", 2))
	wantBelow(t, s, "a", []int{1, 0})
	wantBelow(t, s, "a", []int{0, 2}, of("a", 0))
	wantBelow(t, s, "a", []int{0, 3}, of("a", 0), of("a", 3))
	wantBelow(t, s, "a", []int{1, 4}, of("a", 0), of("a", 3))
	wantBelow(t, s, "ba", []int{0, 3})
	wantBelow(t, s, "ba", []int{0, 4}, of("ba", 4)) // with ab's sum
	wantBelow(t, s, "b", []int{0, 4})
	wantBelow(t, s, "b", []int{1, 0}, of("b", 1))
	for _, key := range []string{"", "c", "d", "A", "a ", "aa", "abc", "\xff\x00", strings.Repeat("a", 1<<16)} {
		wantBelow(t, s, key, []int{1, 4})
	}
	for _, offsets := range [][]int{s.Ends(), make([]int, 2)} {
		wantBelow(t, s, "none", offsets)
	}
	wantBelow(t, made(t, 1), "a", []int{0})
}

// 5.3: too few, too many, and offsets that there are not, of the key's partition and of others.
func TestBelowOfNothing(t *testing.T) {
	s := few(t)
	for _, key := range []string{"a", "b", "", "none", "\xff"} {
		for _, offsets := range [][]int{nil, {}, {0}, {1}, {0, 0, 0}, {1, 4, 0}, {-1}, {-1, 9, 9}, make([]int, 1<<16)} {
			wantNotBelow(t, s, key, offsets, api.ErrRange)
		}
		for _, x := range []int{math.MinInt, -1, 5, math.MaxInt} {
			wantNotBelow(t, s, key, []int{0, x}, api.ErrOffset)
			wantNotBelow(t, s, key, []int{x, 0}, api.ErrOffset)
			wantNotBelow(t, s, key, []int{x, x}, api.ErrOffset)
		}
		wantNotBelow(t, s, key, []int{2, 4}, api.ErrOffset)
	}
	one := made(t, 1)
	wantNotBelow(t, one, "a", nil, api.ErrRange)
	wantNotBelow(t, one, "a", []int{1}, api.ErrOffset)
}

// meets says whether two texts share memory.
func meets(a, b string) bool {
	if a == "" || b == "" {
		return false
	}
	x, y := uintptr(unsafe.Pointer(unsafe.StringData(a))), uintptr(unsafe.Pointer(unsafe.StringData(b)))
	return x < y+uintptr(len(b)) && y < x+uintptr(len(a))
}

func textsOf(events []api.Event) []string {
	var l []string
	for _, e := range events {
		l = append(l, e.Key, e.Type, e.Text)
	}
	return l
}

// overwrite changes all of an answer, its spare room too.
func overwrite[T any](l []T, x T) {
	l = l[:cap(l)]
	for i := range l {
		l[i] = x
	}
}

// R4: no text of an answer is an argument's, another answer's, or twice in one answer.
func TestAnswersShareNoTexts(t *testing.T) {
	s := made(t, 2)
	in := of("ab", 1)
	wantPut(t, s, in, 1, 0)
	wantPut(t, s, in, 1, 1)
	key := string([]byte("ab"))
	l := textsOf([]api.Event{in})
	l = append(l, key)
	for range 2 {
		read, _ := s.Read(1, 0, 2)
		below, _ := s.Below(key, []int{0, 2})
		l = append(append(l, textsOf(read)...), textsOf(below)...)
	}
	if len(l) != 3+1+2*4*3 {
		t.Fatal(len(l))
	}
	for i := range l {
		for k := range i {
			if i < 3 && k < 3 || !meets(l[i], l[k]) {
				continue
			}
			t.Errorf("texts %d and %d share memory: %q, %q", k, i, l[k], l[i])
		}
	}
}

// R4: answers that are written over change nothing that is told later.
func TestAnswersShareNoLists(t *testing.T) {
	s := few(t)
	wantTold := func() {
		t.Helper()
		wantEnds(t, s, 1, 4)
		wantRead(t, s, 1, 0, 9, []api.Event{of("a", 0), of("ab", 2), of("a", 3), of("ba", 4)})
		wantBelow(t, s, "a", []int{1, 4}, of("a", 0), of("a", 3))
	}
	ends, again := s.Ends(), s.Ends()
	part, _ := s.Read(1, 1, 2)
	all, _ := s.Read(1, 0, 4)
	below, _ := s.Below("a", []int{0, 1})
	overwrite(ends, 77)
	overwrite(part, of("zz", 9))
	overwrite(below, of("zz", 9))
	if !slices.Equal(again, []int{1, 4}) || !slices.Equal(all, []api.Event{of("a", 0), of("ab", 2), of("a", 3), of("ba", 4)}) {
		t.Error(again, all)
	}
	wantTold()
	wantPut(t, s, of("a", 5), 1, 4)
	wantRead(t, s, 1, 3, 9, []api.Event{of("ba", 4), of("a", 5)})
}

// R4: offsets are neither changed nor kept, and nothing behind their length is read or written.
func TestBelowLeavesOffsets(t *testing.T) {
	s := few(t)
	room := []int{1, 3, -5, 99}
	wantBelow(t, s, "a", room[:2], of("a", 0), of("a", 3))
	wantNotBelow(t, s, "a", room[:1], api.ErrRange)
	wantNotBelow(t, s, "a", room[1:3], api.ErrOffset)
	if !slices.Equal(room, []int{1, 3, -5, 99}) {
		t.Error(room)
	}
	room[1] = 1
	wantBelow(t, s, "a", []int{1, 3}, of("a", 0), of("a", 3))
}
