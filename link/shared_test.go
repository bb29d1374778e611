package link_test

import (
	"strconv"
	"testing"
	"unsafe"

	"weaver/api"
)

// overwrite changes a text's bytes, as nobody may who did not make it.
func overwrite(s string) {
	b := unsafe.Slice(unsafe.StringData(s), len(s))
	for i := range b {
		b[i] = '-'
	}
}

// inRoom is a text that is a part of greater memory.
func inRoom(room []byte, s string) string {
	copy(room[1:], s)
	return unsafe.String(&room[1], len(s))
}

// R4: a text that is written over behind the call is another one's no more; nor is it changed.
func TestPushedTextIsNotKept(t *testing.T) {
	s, room := sender(t, 0, 2, 1), []byte("zabcz")
	wantPush(t, s, inRoom(room, "abc"), api.OK)
	if string(room) != "zabcz" {
		t.Errorf("what was pushed is %q", room)
	}
	copy(room, "-----")
	wantDue(t, s, 0, dataOf(0, 0, "abc"))
}

// R4: so are packets that come in, those that are kept as well.
func TestTakenPacketIsNotKept(t *testing.T) {
	r := receiver(t, 0, 4)
	for n := 2; n >= 0; n-- {
		packet := dataOf(0, n, "abc"+strconv.Itoa(n))
		room := make([]byte, len(packet)+2)
		b := inRoom(room, packet)
		l, ack, e := r.Take(b)
		if b != packet || room[0] != 0 || room[len(room)-1] != 0 {
			t.Errorf("what was taken is %q", room)
		}
		overwrite(b)
		if n > 0 {
			if len(l) != 0 || ack != ackOf(0, 0) || e != api.OK {
				t.Errorf("Take = %q, %q, %d", l, ack, e)
			}
		} else if len(l) != 3 || l[0] != "abc0" || l[1] != "abc1" || l[2] != "abc2" || ack != ackOf(0, 3) || e != api.OK {
			t.Errorf("Take = %q, %q, %d", l, ack, e)
		}
	}
}

// R4: what was told may be written over, the room behind a list's length too: later answers stay right.
func TestDueIsNew(t *testing.T) {
	s := sender(t, 0, 5, 1)
	text := "abc"
	pushAll(t, s, text, "d", "", text, "e")
	want := []string{dataOf(0, 0, "abc"), dataOf(0, 1, "d"), dataOf(0, 2, ""), dataOf(0, 3, "abc"), dataOf(0, 4, "e")}
	for now := range 4 {
		l, e := s.Due(now)
		if len(l) != len(want) || e != api.OK {
			t.Fatal(l, e)
		}
		for i := range l {
			if l[i] != want[i] {
				t.Errorf("Due(%d)[%d] = %q, want %q", now, i, l[i], want[i])
			}
			overwrite(l[i])
		}
		l = l[:cap(l)]
		for i := range l {
			l[i] = "gone"
		}
	}
	if text != "abc" {
		t.Error(text)
	}
	wantDue(t, s, 4, want...)
}

// R4: likewise texts and acknowledgements.
func TestTakeIsNew(t *testing.T) {
	r := receiver(t, 0, 5)
	for n := 0; n < 40; n += 4 {
		for _, at := range []int{n + 2, n + 3, n, n + 1} {
			packet := dataOf(0, at, "text"+strconv.Itoa(at))
			whole := packet + ""
			l, ack, e := r.Take(packet)
			if e != api.OK || packet != whole || ack != ackOf(0, r.Next()) {
				t.Fatalf("Take(%q) = %q, %q, %d", whole, l, ack, e)
			}
			for i, text := range l {
				if text != "text"+strconv.Itoa(r.Next()-len(l)+i) {
					t.Errorf("told is %q as the last but %d of %d", text, len(l)-1-i, r.Next())
				}
				overwrite(text)
			}
			overwrite(ack)
			l = l[:cap(l)]
			for i := range l {
				l[i] = "gone"
			}
			if packet != whole {
				t.Errorf("the packet is %q, was %q", packet, whole)
			}
		}
	}
	wantNext(t, r, 40)
}

// R4: no two texts of one answer, and no two answers, share memory.
func TestNothingIsShared(t *testing.T) {
	s, r := sender(t, 0, 4, 1), receiver(t, 0, 4)
	pushAll(t, s, "abc", "abc", "abc")
	var told []string
	for now := range 3 {
		l, _ := s.Due(now)
		told = append(told, l...)
	}
	for _, i := range []int{1, 2, 0, 1, 1} {
		texts, ack, _ := r.Take(dataOf(0, i, "abc"))
		told = append(append(told, texts...), ack)
	}
	if len(told) != 9+5+3 {
		t.Fatalf("told are %q", told)
	}
	for i, x := range told {
		for k := range i {
			if unsafe.StringData(x) == unsafe.StringData(told[k]) {
				t.Errorf("the answers %d and %d are one: %q", k, i, x)
			}
		}
	}
}
