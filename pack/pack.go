// Package pack is layer 1: see shared/doc/01-pack.md.
package pack

import (
	"math/bits"
	"strings"

	"weaver/api"
)

// What an item is, as its first byte tells; 0 is left out, so that a stretch of zero bytes is no list.
const (
	kindNumber byte = iota + 1
	kindText
)

// A number's bytes hold seven bits each; the eighth says that one more follows.
const (
	groupBits = 7
	groupMask = 1<<groupBits - 1
	moreBit   = 1 << groupBits
)

// foldedRoom is the least u that has no room for seven bits more.
const foldedRoom = 1 << (64 - groupBits)

func Encode(l []api.Item) (string, api.Errno) {
	if len(l) > api.MaxItems {
		return "", api.ErrLong
	}
	for _, x := range l {
		if !mayBe(x) {
			return "", api.ErrShape
		}
	}
	var out []byte
	for _, x := range l {
		// Asked ahead of the copy, so that a text of any length costs nothing.
		if len(x.S) > api.MaxBytes-len(out) {
			return "", api.ErrLong
		}
		out = appendItem(out, x)
		if len(out) > api.MaxBytes {
			return "", api.ErrLong
		}
	}
	return string(out), api.OK
}

func mayBe(x api.Item) bool {
	if x.Text {
		return x.N == 0
	}
	return x.S == ""
}

func appendItem(out []byte, x api.Item) []byte {
	if !x.Text {
		return appendNumber(append(out, kindNumber), x.N)
	}
	out = appendNumber(append(out, kindText), int64(len(x.S)))
	return append(out, x.S...)
}

func appendNumber(out []byte, n int64) []byte {
	u := fold(n)
	groups := max(1, (bits.Len64(u)+groupBits-1)/groupBits)
	for g := groups - 1; g > 0; g-- {
		out = append(out, byte(u>>(g*groupBits))&groupMask|moreBit)
	}
	return append(out, byte(u)&groupMask)
}

// fold lays the numbers from 0 on on the even ones and those below 0 on the odd ones, so that small numbers of both signs are short.
func fold(n int64) uint64 {
	if n < 0 {
		return ^(uint64(n) << 1)
	}
	return uint64(n) << 1
}

func unfold(u uint64) int64 {
	if u&1 == 1 {
		return ^int64(u >> 1)
	}
	return int64(u >> 1)
}

func Decode(b string) ([]api.Item, api.Fault) {
	if len(b) > api.MaxBytes {
		return nil, api.Fault{Code: api.ErrLong}
	}
	var l []api.Item
	at := 0
	for at < len(b) {
		if len(l) == api.MaxItems {
			return nil, api.Fault{At: at, Code: api.ErrLong}
		}
		x, end, e := readItem(b, at)
		if e != api.OK {
			return nil, api.Fault{At: at, Code: e}
		}
		l = append(l, x)
		at = end
	}
	return l, api.Fault{}
}

// readItem is called with a byte at least at the place at.
func readItem(b string, at int) (x api.Item, end int, e api.Errno) {
	kind := b[at]
	if kind != kindNumber && kind != kindText {
		return api.Item{}, 0, api.ErrForm
	}
	n, end, e := readNumber(b, at+1)
	if e != api.OK {
		return api.Item{}, 0, e
	}
	if kind == kindNumber {
		return api.Item{N: n}, end, api.OK
	}
	if n < 0 || n > api.MaxBytes {
		return api.Item{}, 0, api.ErrForm
	}
	behind := end + int(n)
	if behind > len(b) {
		return api.Item{}, 0, api.ErrEnd
	}
	return api.Item{Text: true, S: strings.Clone(b[end:behind])}, behind, api.OK
}

func readNumber(b string, at int) (n int64, end int, e api.Errno) {
	u := uint64(0)
	for i := at; i < len(b); i++ {
		c := b[i]
		// A first group of zeros would be a second way to write the number.
		if i == at && c == moreBit || u >= foldedRoom {
			return 0, 0, api.ErrForm
		}
		u = u<<groupBits | uint64(c&groupMask)
		if c&moreBit == 0 {
			return unfold(u), i + 1, api.OK
		}
	}
	return 0, 0, api.ErrEnd
}
