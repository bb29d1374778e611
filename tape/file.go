package tape

import (
	"strings"

	"weaver/api"
	"weaver/disk"
	"weaver/pack"
)

func open(d *disk.Disk, name string) *Tape {
	if d == nil {
		giveUp(api.ErrNone)
	}
	b := bytesOf(d, name)
	texts, end := pack.Frames(b)
	if end < len(b) {
		mustBeTorn(b, end)
		mustBeOK(d.Cut(name, end))
	}
	return &Tape{disk: d, name: strings.Clone(name), texts: texts}
}

// bytesOf takes a file that is not there for one without bytes: a tape has no texts in either.
func bytesOf(d *disk.Disk, name string) string {
	b, e := d.Read(name)
	if e == api.ErrNone {
		return ""
	}
	mustBeOK(e)
	return b
}

// mustBeTorn lets a frame through that ends early, as a crash leaves it; any other fault was not made by a crash.
func mustBeTorn(b string, at int) {
	if _, _, f := pack.Unframe(b, at); f.Code != api.ErrEnd {
		giveUp(api.ErrCorrupt)
	}
}

// add asks the disk where the file ends, for another tape may have the same file.
func (t *Tape) add(s string) {
	frame, e := pack.Frame(s)
	mustBeOK(e)
	end := len(bytesOf(t.disk, t.name))
	mustBeOK(t.disk.Write(t.name, end, frame))
	t.texts = append(t.texts, strings.Clone(s))
}
