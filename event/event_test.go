package event_test

import (
	"math"
	"math/rand"
	"strings"
	"testing"
	"unsafe"

	"weaver/api"
	"weaver/event"
	"weaver/pack"
)

func number(n int64) api.Item { return api.Item{N: n} }

func text(s string) api.Item { return api.Item{Text: true, S: s} }

// bytesOf is a list's bytes, to write by hand what is no event's and no match's.
func bytesOf(t *testing.T, l ...api.Item) string {
	t.Helper()
	s, e := pack.Encode(l)
	if e != api.OK {
		t.Fatalf("no list: %v", l)
	}
	return s
}

// meets says whether two texts share memory.
func meets(a, b string) bool {
	if a == "" || b == "" {
		return false
	}
	x, y := uintptr(unsafe.Pointer(unsafe.StringData(a))), uintptr(unsafe.Pointer(unsafe.StringData(b)))
	return x < y+uintptr(len(b)) && y < x+uintptr(len(a))
}

type nameCase struct {
	s  string
	ok bool
}

func someNames() []nameCase {
	l := []nameCase{
		{"", false}, {"a", true}, {"z", true}, {"0", true}, {"9", true}, {"az09", true},
		{strings.Repeat("q", api.MaxName), true}, {strings.Repeat("q", api.MaxName+1), false}, {strings.Repeat("q", 1<<16), false},
		{"aé", false}, {"k ", false}, {" k", false}, {"k\x00", false}, {strings.Repeat("q", api.MaxName-1) + "Q", false},
	}
	for c := range 256 {
		ok := strings.IndexByte("abcdefghijklmnopqrstuvwxyz0123456789", byte(c)) >= 0
		l = append(l, nameCase{string([]byte{byte(c)}), ok}, nameCase{string([]byte{'m', byte(c)}), ok}, nameCase{string([]byte{byte(c), 'm'}), ok})
	}
	return l
}

func wantEvent(t *testing.T, e api.Event, ok bool) {
	t.Helper()
	want := api.ErrEvent
	if ok {
		want = api.OK
	}
	if c := event.Check(e); c != want {
		t.Errorf("Check(%.60q) = %d, want %d", e.Key, c, want)
	}
	s, c := event.Encode(e)
	if c != want || !ok && s != "" {
		t.Errorf("Encode(%.60q) = %x, %d, want %d", e.Key, s, c, want)
	}
	// Its list by hand: Decode refuses what Check refuses.
	l := []api.Item{text(e.Key), text(e.Type), number(e.N[0]), number(e.N[1]), number(e.N[2]), number(e.N[3]), text(e.Text)}
	b := bytesOf(t, l...)
	if ok && s != b {
		t.Errorf("Encode(%v) = %x, want %x", e, s, b)
	}
	x, c := event.Decode(b)
	if c != want || ok && x != e || !ok && x != (api.Event{}) {
		t.Errorf("Decode of %.60q = %v, %d, want %d", e.Key, x, c, want)
	}
}

// 2.1: names at their edges, in Key and in Type.
func TestNames(t *testing.T) {
	for _, n := range someNames() {
		wantEvent(t, api.Event{Key: n.s, Type: "t"}, n.ok)
		wantEvent(t, api.Event{Key: "k", Type: n.s, Text: "x"}, n.ok)
	}
}

// 2.1: texts at their edges, numbers of all sizes.
func TestTextsAndNumbers(t *testing.T) {
	for _, n := range []int{0, 1, 255, api.MaxText} {
		wantEvent(t, api.Event{Key: "k", Type: "t", Text: strings.Repeat("\xff", n)}, true)
	}
	for _, n := range []int{api.MaxText + 1, 2 * api.MaxText, api.MaxBytes / 2} {
		wantEvent(t, api.Event{Key: "k", Type: "t", Text: strings.Repeat("x", n)}, false)
	}
	for i := range 4 {
		for _, n := range []int64{0, 1, -1, 63, -64, 64, math.MaxInt64, math.MinInt64} {
			e := api.Event{Key: "k", Type: "t"}
			e.N[i] = n
			wantEvent(t, e, true)
		}
	}
	wantEvent(t, api.Event{Key: "k", Type: "t", N: [4]int64{1, 2, 3, 4}, Text: "\x00é'"}, true)
	wantEvent(t, api.Event{}, false)
}

// 2.1: the chapter's list as bytes, written out.
func TestEventBytes(t *testing.T) {
	s, c := event.Encode(api.Event{Key: "k1", Type: "t", N: [4]int64{0, -1, 64, -65}, Text: "ab"})
	if want := "\x02\x04k1\x02\x02t\x01\x00\x01\x01\x01\x81\x00\x01\x81\x01\x02\x04ab"; s != want || c != api.OK {
		t.Errorf("%x, %d", s, c)
	}
}

func wantNoEvent(t *testing.T, b string, want api.Errno) {
	t.Helper()
	if e, c := event.Decode(b); c != want || e != (api.Event{}) {
		t.Errorf("Decode of %d bytes (%.40x) = %v, %d, want %d", len(b), b, e, c, want)
	}
}

// 2.1: lists with an item too few or too many, or of the wrong kind, and bytes of no list.
func TestDecodeNoEvent(t *testing.T) {
	l := []api.Item{text("k"), text("t"), number(1), number(2), number(3), number(4), text("x")}
	whole := bytesOf(t, l...)
	for i := range l {
		wantNoEvent(t, bytesOf(t, l[:i]...), api.ErrEvent)
		without := append(append([]api.Item{}, l[:i]...), l[i+1:]...)
		wantNoEvent(t, bytesOf(t, without...), api.ErrEvent)
		other := append([]api.Item{}, l...)
		for _, x := range []api.Item{number(0), number(7), text(""), text("k"), text("0")} {
			other[i] = x
			if x.Text != l[i].Text {
				wantNoEvent(t, bytesOf(t, other...), api.ErrEvent)
			}
		}
	}
	for _, x := range []api.Item{number(0), number(7), text(""), text("x")} {
		wantNoEvent(t, bytesOf(t, append(l[:len(l):len(l)], x)...), api.ErrEvent)
		wantNoEvent(t, bytesOf(t, append([]api.Item{x}, l...)...), api.ErrEvent)
	}
	for i := range whole {
		wantNoEvent(t, whole[:i], api.ErrEvent)
	}
	for _, b := range []string{"\x00", "\x03", "\x01", "\x02", whole + "\x00", whole + "\x01", "\x00" + whole, whole + whole} {
		wantNoEvent(t, b, api.ErrEvent)
	}
}

// 2.1: only what is longer than api.MaxBytes is ErrLong; a list too long for pack is no event's.
func TestDecodeLimits(t *testing.T) {
	wantNoEvent(t, strings.Repeat("\x00", api.MaxBytes), api.ErrEvent)
	wantNoEvent(t, strings.Repeat("\x00", api.MaxBytes+1), api.ErrLong)
	wantNoEvent(t, strings.Repeat("\x01\x00", api.MaxItems+1), api.ErrEvent)
	wantNoEvent(t, strings.Repeat("\x01\x00", api.MaxBytes/2), api.ErrEvent)
	whole := bytesOf(t, text("k"), text("t"), number(1), number(2), number(3), number(4))
	long := api.MaxBytes - len(whole) - 4 // a text's kind, its number in three bytes, and it
	b := whole + bytesOf(t, text(strings.Repeat("x", long)))
	if len(b) != api.MaxBytes {
		t.Fatal(len(b))
	}
	wantNoEvent(t, b, api.ErrEvent)
	wantNoEvent(t, b+"x", api.ErrLong)
}

// 2.3: whatever bytes are handed in, they are one event's, or none's.
func TestBytesAreOneEvent(t *testing.T) {
	r := rand.New(rand.NewSource(2))
	e := api.Event{Key: "key", Type: "type", N: [4]int64{1, -200, 1 << 40, math.MinInt64}, Text: "text"}
	whole, _ := event.Encode(e)
	found := 0
	for range 20000 {
		b := []byte(whole)
		for range 1 + r.Intn(3) {
			b[r.Intn(len(b))] = byte(r.Intn(256))
		}
		x, c := event.Decode(string(b))
		if c == api.ErrEvent && x == (api.Event{}) {
			continue
		}
		found++
		if s, again := event.Encode(x); c != api.OK || again != api.OK || s != string(b) {
			t.Fatalf("%x is %v, %d; its bytes are %x, %d", b, x, c, s, again)
		}
	}
	if found == 0 {
		t.Error("no event was met")
	}
}

// R4 and R7.
func TestEventsShareNothing(t *testing.T) {
	b := bytesOf(t, text("key"), text("type"), number(1), number(2), number(3), number(4), text("text"))
	x, _ := event.Decode(b)
	y, _ := event.Decode(b)
	if x != y || x.Key != "key" {
		t.Fatal(x, y)
	}
	l := []string{b, x.Key, x.Type, x.Text, y.Key, y.Type, y.Text}
	for i := range l {
		for k := range i {
			if meets(l[i], l[k]) {
				t.Error(i, k, "share memory")
			}
		}
	}
	s, _ := event.Encode(x)
	again, _ := event.Encode(x)
	if s != b || again != b || meets(s, again) {
		t.Errorf("%x, %x", s, again)
	}
}
