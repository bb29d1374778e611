package disk

import (
	"bytes"
	"maps"
	"slices"
	"strings"

	"weaver/api"
)

// change is a write, a cut, a rename or a removal.
type change interface {
	isChange()
}

type write struct {
	name string
	at   int
	data string
}

type cut struct {
	name   string
	length int
}

type rename struct {
	from, to string
}

type removal struct {
	name string
}

func (write) isChange()   {}
func (cut) isChange()     {}
func (rename) isChange()  {}
func (removal) isChange() {}

// files are a state: names and bytes. No two states share bytes, for a write lays its data over what stands there.
type files map[string][]byte

// apply is called with changes in the order in which they were let through, so that each finds the state that it was let through in.
func (f files) apply(c change) {
	switch x := c.(type) {
	case write:
		old := f[x.name]
		n := copy(old[x.at:], x.data)
		f[x.name] = append(old, x.data[n:]...)
	case cut:
		// A copy, so that what was cut off is not kept.
		f[x.name] = bytes.Clone(f[x.name][:x.length])
	case rename:
		moved := f[x.from]
		delete(f, x.from)
		f[x.to] = moved
	case removal:
		delete(f, x.name)
	}
}

// tear makes what a crash leaves of a change: only a write leaves something.
func (f files) tear(c change, torn int) {
	switch x := c.(type) {
	case write:
		if torn >= 0 {
			x.data = x.data[:min(torn, len(x.data))]
			f.apply(x)
		}
	}
}

func (f files) size() int {
	n := 0
	for _, b := range f {
		n += len(b)
	}
	return n
}

func (f files) names() []string {
	l := slices.Sorted(maps.Keys(f))
	for i, s := range l {
		l[i] = strings.Clone(s)
	}
	return l
}

func (f files) clone() files {
	out := files{}
	for name, b := range f {
		out[name] = bytes.Clone(b)
	}
	return out
}

func isName(s string) bool {
	if len(s) < 1 || len(s) > api.MaxName {
		return false
	}
	for i := range len(s) {
		if !isNameByte(s[i]) {
			return false
		}
	}
	return true
}

func isNameByte(c byte) bool {
	return 'a' <= c && c <= 'z' || '0' <= c && c <= '9' || c == '.'
}
