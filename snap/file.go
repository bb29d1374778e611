package snap

import (
	"weaver/api"
	"weaver/disk"
	"weaver/pack"
)

// The manifest is written beside the one that counts, and put in its place when it is safe.
const (
	manifestName = "m"
	newName      = "m.new"
)

type manifest struct {
	c, tasks int
	text     string
}

// frame is called with what may be in a manifest, which is never too long for a frame.
func (m manifest) frame() string {
	list, _ := pack.Encode([]api.Item{{N: int64(m.c)}, {N: int64(m.tasks)}, {Text: true, S: m.text}})
	frame, _ := pack.Frame(list)
	return frame
}

// place lets each step be safe ahead of the one that stands on it: a manifest that counts may not be told ahead of its tasks' files, nor by a name that a crash takes back.
func place(d *disk.Disk, m manifest) api.Errno {
	if e := d.Sync(); e != api.OK {
		return e
	}
	if e := writeAnew(d, newName, m.frame()); e != api.OK {
		return e
	}
	if e := d.Sync(); e != api.OK {
		return e
	}
	if e := d.Rename(newName, manifestName); e != api.OK {
		return e
	}
	return d.Sync()
}

// writeAnew removes what is there, for a write over longer bytes would leave their end.
func writeAnew(d *disk.Disk, name, b string) api.Errno {
	if e := d.Remove(name); e != api.OK && e != api.ErrNone {
		return e
	}
	return d.Write(name, 0, b)
}

func readManifest(d *disk.Disk) (manifest, api.Errno) {
	body, e := readFrame(d, manifestName)
	if e != api.OK {
		return manifest{}, e
	}
	m, ok := manifestOf(body)
	if !ok {
		return manifest{}, api.ErrCorrupt
	}
	return m, api.OK
}

func manifestOf(body string) (manifest, bool) {
	l, f := pack.Decode(body)
	if f.Code != api.OK || len(l) != 3 || l[0].Text || l[1].Text || !l[2].Text {
		return manifest{}, false
	}
	m := manifest{int(l[0].N), int(l[1].N), l[2].S}
	if !isSnapshot(m.c) || !isCount(m.tasks) {
		return manifest{}, false
	}
	return m, true
}

// readFrame takes bytes behind the frame for corrupt, too: no crash leaves some.
func readFrame(d *disk.Disk, name string) (string, api.Errno) {
	b, e := d.Read(name)
	if e != api.OK {
		return "", e
	}
	body, end, f := pack.Unframe(b, 0)
	if f.Code != api.OK || end != len(b) {
		return "", api.ErrCorrupt
	}
	return body, api.OK
}
