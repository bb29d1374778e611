package link_test

import (
	"math"
	"math/rand"
	"strings"
	"testing"

	"weaver/api"
	"weaver/link"
	"weaver/pack"
)

// someItems are numbers at the edges of what the parts of a packet may be, and texts.
func someItems() []api.Item {
	l := []api.Item{{Text: true}, {Text: true, S: "a"}, {Text: true, S: "\x00"}, {Text: true, S: "\x01"}}
	for _, n := range []int64{0, 1, 2, 3, -1, -2, api.MaxEpoch - 1, api.MaxEpoch, api.MaxEpoch + 1, api.MaxEpoch + 2, 1 << 32, 1<<32 + 1, -1 << 32, math.MaxInt64, math.MinInt64} {
		l = append(l, api.Item{N: n})
	}
	return l
}

func bytesOf(l []api.Item) string {
	b := ""
	for _, x := range l {
		if x.Text {
			b += textOf(x.S)
		} else {
			b += itemOf(x.N)
		}
	}
	return b
}

func isFrom0To(x api.Item, most int64) bool { return !x.Text && x.N >= 0 && x.N <= most }

// isData says by the chapter's words whether a list is one of a data packet.
func isData(l []api.Item) bool {
	return len(l) == 4 && isFrom0To(l[0], 0) && isFrom0To(l[1], api.MaxEpoch) && isFrom0To(l[2], api.MaxSeq) && l[3].Text && len(l[3].S) <= longest
}

func isAck(l []api.Item) bool {
	return len(l) == 3 && l[0] == api.Item{N: 1} && isFrom0To(l[1], api.MaxEpoch) && isFrom0To(l[2], api.MaxSeq+1)
}

// side has one of each that is given packets of the epoch 1: both have seen two texts, three were pushed.
type side struct {
	t *testing.T
	s *link.Sender
	r *link.Receiver
}

func newSide(t *testing.T) side {
	t.Helper()
	x := side{t: t, s: sender(t, 1, 4, 1), r: receiver(t, 1, 4)}
	pushAll(t, x.s, "a", "b", "c")
	wantHeard(t, x.s, ackOf(1, 2), api.OK)
	wantTake(t, x.r, dataOf(1, 0, "a"), ackOf(1, 1), "a")
	wantTake(t, x.r, dataOf(1, 1, "b"), ackOf(1, 2), "b")
	return x
}

// give hands packets in that neither may be heard nor tell a text, unless they are of the numbers 2 and 3.
func (x side) give(b string, l []api.Item) {
	x.t.Helper()
	heard, took := api.ErrForm, api.ErrForm
	if isAck(l) {
		heard = api.OK
		if l[1].N != 1 {
			heard = api.ErrStale
		} else if l[2].N > 3 {
			heard = api.ErrRange
		}
	}
	wantHeard(x.t, x.s, b, heard)
	if isData(l) {
		took = api.OK
		if l[1].N != 1 {
			took = api.ErrStale
		}
	}
	if took != api.OK {
		wantNoTake(x.t, x.r, b, took)
		return
	}
	if l[2].N == 2 {
		wantTake(x.t, x.r, b, ackOf(1, 3), l[3].S)
	} else {
		wantTake(x.t, x.r, b, ackOf(1, 2))
	}
}

// 19.3, 19.4, R1, R5: all lists of up to four such items: which are packets, and which error goes first.
func TestLists(t *testing.T) {
	items := someItems()
	x := newSide(t)
	var give func(l []api.Item)
	give = func(l []api.Item) {
		if isData(l) || isAck(l) { // what is right may change something
			newSide(t).give(bytesOf(l), l)
		} else {
			x.give(bytesOf(l), l)
		}
		if len(l) == 4 {
			return
		}
		for _, next := range items {
			give(append(l[:len(l):len(l)], next))
		}
	}
	give(nil)
}

// 19.3, 19.4: a list with one item more, or two, is no packet, whatever it begins with.
func TestLongLists(t *testing.T) {
	x := newSide(t)
	data := []api.Item{{N: 0}, {N: 1}, {N: 2}, {Text: true, S: "a"}}
	ack := []api.Item{{N: 1}, {N: 1}, {N: 2}}
	for _, more := range someItems() {
		for _, l := range [][]api.Item{data, ack} {
			l = append(l[:len(l):len(l)], more)
			x.give(bytesOf(l), l)
			l = append(l, more)
			x.give(bytesOf(l), l)
		}
	}
	wantNoTake(t, x.r, dataOf(1, 2, "a")+dataOf(1, 3, "b"), api.ErrForm)
	wantHeard(t, x.s, ackOf(1, 3)+ackOf(1, 3), api.ErrForm)
	wantLeft(t, x.s, 1)
	wantNext(t, x.r, 2)
}

// 19.3, 19.4: bytes that are no list: cut short anywhere, with a byte too many ahead or behind, with
// numbers that are longer than they must be.
func TestNoLists(t *testing.T) {
	x := newSide(t)
	wrong := []string{"", "\x00", "\x01", "\x02", "a", "\xff\xff", "WF",
		"\x01\x80\x00\x01\x02\x01\x04\x02\x02a", "\x01\x00\x01\x80\x02\x01\x04\x02\x02a", "\x01\x00\x01\x02\x01\x04\x02\x80\x02a",
		"\x01\x00\x01\x02\x01\x04\x02\x01a", "\x01\x02\x01\x02\x01\x80\x04", "\x01\x02\x01\x02\x01" + strings.Repeat("\xff", 9) + "\x01"}
	for _, whole := range []string{dataOf(1, 2, "abc"), ackOf(1, 3)} {
		for n := range whole {
			wrong = append(wrong, whole[:n], whole[:n]+"\x00"+whole[n:])
		}
		wrong = append(wrong, whole+"\x00", whole+"\x01", whole+"\x02", whole+"x")
	}
	for _, b := range wrong {
		if l, f := pack.Decode(b); f != (api.Fault{}) || !isData(l) && !isAck(l) {
			wantHeard(t, x.s, b, api.ErrForm)
			wantNoTake(t, x.r, b, api.ErrForm)
		}
	}
	wantLeft(t, x.s, 1)
	wantNext(t, x.r, 2)
	wantTake(t, x.r, dataOf(1, 2, "abc"), ackOf(1, 3), "abc")
}

// 19.3, 19.4, R2: more bytes, or items, than a list has: ErrForm, since the chapter has no other error there.
func TestTooManyBytes(t *testing.T) {
	x := newSide(t)
	for _, b := range []string{
		strings.Repeat("\x01\x00", api.MaxItems), strings.Repeat("\x01\x00", api.MaxItems+1),
		strings.Repeat("\x01\x02", api.MaxBytes/2), strings.Repeat("\x01\x02", api.MaxBytes),
		dataOf(1, 2, strings.Repeat("x", api.MaxBytes)), dataOf(1, 2, strings.Repeat("x", api.MaxBytes-12)),
		dataOf(1, 2, "x") + strings.Repeat("\x00", api.MaxBytes), ackOf(1, 3) + strings.Repeat("\x00", api.MaxBytes),
		dataOf(2, 2, strings.Repeat("x", 1<<22)),
	} {
		wantHeard(t, x.s, b, api.ErrForm)
		wantNoTake(t, x.r, b, api.ErrForm)
	}
	wantLeft(t, x.s, 1)
	wantNext(t, x.r, 2)
}

// 19.3, 19.4: right packets with one byte that is another one are what their list then says.
func TestByteChanged(t *testing.T) {
	for _, whole := range []string{dataOf(1, 2, "abc"), ackOf(1, 3), dataOf(1, 3, ""), ackOf(1, 2), dataOf(1, 200, "x"), ackOf(64, 300)} {
		for i := range whole {
			for c := range 256 {
				b := whole[:i] + string([]byte{byte(c)}) + whole[i+1:]
				l, _ := pack.Decode(b)
				newSide(t).give(b, l)
			}
		}
	}
}

// P1: no bytes bring a panic, and what they come to is what their list says.
func TestAnything(t *testing.T) {
	r := rand.New(rand.NewSource(19))
	likely := []byte{0, 0, 1, 1, 1, 1, 2, 2, 2, 4, 6, 128, 129, 255, 'a'}
	for range 200000 {
		b := make([]byte, r.Intn(14))
		for i := range b {
			b[i] = likely[r.Intn(len(likely))]
		}
		if len(b) > 5 && r.Intn(2) == 0 {
			copy(b, "\x01\x00\x01\x02\x01")
		}
		l, _ := pack.Decode(string(b))
		newSide(t).give(string(b), l)
	}
}
