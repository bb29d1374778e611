package pack

import (
	"strings"

	"weaver/api"
)

// A frame is its mark, the number of its body's bytes, the sum, and the body.
const (
	mark      = "WF"
	wordBytes = 4
	sumPlace  = len(mark) + wordBytes
	bodyPlace = sumPlace + wordBytes
)

// sumNibbles holds what four zero bits behind each nibble make of it, lowest bit first, under the Castagnoli polynomial: a whole byte's table would be too long for one that is written out.
var sumNibbles = [16]uint32{
	0x00000000, 0x105ec76f, 0x20bd8ede, 0x30e349b1,
	0x417b1dbc, 0x5125dad3, 0x61c69362, 0x7198540d,
	0x82f63b78, 0x92a8fc17, 0xa24bb5a6, 0xb21572c9,
	0xc38d26c4, 0xd3d3e1ab, 0xe330a81a, 0xf36e6f75,
}

func Sum(b string) uint32 {
	return ^sumOn(^uint32(0), b)
}

// sumOn takes a sum that is under way on over b.
func sumOn(s uint32, b string) uint32 {
	for i := 0; i < len(b); i++ {
		s ^= uint32(b[i])
		s = s>>4 ^ sumNibbles[s&15]
		s = s>>4 ^ sumNibbles[s&15]
	}
	return s
}

// frameSum is the sum of a frame's bytes ahead of the sum and of its body, which do not stand side by side.
func frameSum(ahead, body string) uint32 {
	return ^sumOn(sumOn(^uint32(0), ahead), body)
}

func Frame(b string) (string, api.Errno) {
	if len(b) > api.MaxFrame {
		return "", api.ErrLong
	}
	out := make([]byte, 0, bodyPlace+len(b))
	out = append(out, mark...)
	out = appendWord(out, uint32(len(b)))
	out = appendWord(out, frameSum(string(out), b))
	return string(append(out, b...)), api.OK
}

func appendWord(out []byte, w uint32) []byte {
	return append(out, byte(w>>24), byte(w>>16), byte(w>>8), byte(w))
}

// word is called with four bytes at least.
func word(b string) uint32 {
	return uint32(b[0])<<24 | uint32(b[1])<<16 | uint32(b[2])<<8 | uint32(b[3])
}

func Unframe(b string, at int) (body string, end int, f api.Fault) {
	if at < 0 || at > len(b) {
		return "", 0, api.Fault{Code: api.ErrRange}
	}
	inside, e := bodyOf(b[at:])
	if e != api.OK {
		return "", 0, api.Fault{At: at, Code: e}
	}
	return strings.Clone(inside), at + bodyPlace + len(inside), api.Fault{}
}

// bodyOf answers the body of the frame that b begins with, as a part of b.
func bodyOf(b string) (string, api.Errno) {
	if len(b) < len(mark) && strings.HasPrefix(mark, b) {
		return "", api.ErrEnd
	}
	if !strings.HasPrefix(b, mark) {
		return "", api.ErrForm
	}
	if len(b) < bodyPlace {
		return "", api.ErrEnd
	}
	n := word(b[len(mark):])
	if n > api.MaxFrame {
		return "", api.ErrLong
	}
	body := b[bodyPlace:]
	if len(body) < int(n) {
		return "", api.ErrEnd
	}
	body = body[:n]
	if frameSum(b[:sumPlace], body) != word(b[sumPlace:]) {
		return "", api.ErrSum
	}
	return body, api.OK
}

func Frames(b string) (bodies []string, end int) {
	for {
		body, behind, f := Unframe(b, end)
		if f.Code != api.OK {
			return bodies, end
		}
		bodies = append(bodies, body)
		end = behind
	}
}
