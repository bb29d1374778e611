package link

import (
	"weaver/api"
	"weaver/pack"
)

// What a packet is, as its first number tells.
const (
	kindData = iota
	kindAck
)

// packet is what one says: an acknowledgement's number is the one that is expected next, and it has no text.
type packet struct {
	epoch, number int
	text          string
}

func dataBytes(p packet) string {
	return bytesOf(append(headOf(kindData, p), api.Item{Text: true, S: p.text}))
}

func ackBytes(p packet) string {
	return bytesOf(headOf(kindAck, p))
}

func headOf(kind int64, p packet) []api.Item {
	return []api.Item{{N: kind}, {N: int64(p.epoch)}, {N: int64(p.number)}}
}

// bytesOf minds no error: the items are few, and no text of a link is near api.MaxBytes.
func bytesOf(l []api.Item) string {
	b, _ := pack.Encode(l)
	return b
}

func readData(b string) (packet, bool) {
	l, f := pack.Decode(b)
	if f != (api.Fault{}) || len(l) != 4 || !isHead(l[:3], kindData, api.MaxSeq) {
		return packet{}, false
	}
	text := l[3]
	if !text.Text || len(text.S) > maxText {
		return packet{}, false
	}
	return packet{epoch: int(l[1].N), number: int(l[2].N), text: text.S}, true
}

func readAck(b string) (packet, bool) {
	l, f := pack.Decode(b)
	// One more than a text can have: the number that is expected behind the last text there can be.
	if f != (api.Fault{}) || len(l) != 3 || !isHead(l, kindAck, api.MaxSeq+1) {
		return packet{}, false
	}
	return packet{epoch: int(l[1].N), number: int(l[2].N)}, true
}

// isHead is asked of three items.
func isHead(l []api.Item, kind, most int64) bool {
	return l[0] == api.Item{N: kind} && isNumber(l[1], api.MaxEpoch) && isNumber(l[2], most)
}

func isNumber(x api.Item, most int64) bool {
	return !x.Text && 0 <= x.N && x.N <= most
}
