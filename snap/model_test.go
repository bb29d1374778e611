package snap_test

import (
	"math/rand"
	"regexp"
	"strconv"
	"testing"

	"weaver/api"
	"weaver/disk"
	"weaver/snap"
)

// model does by the chapter's steps, on a disk of its own, what package snap does; what counts it remembers, and what was put.
type model struct {
	d    *disk.Disk
	safe []told // what counts, behind each change that waits, the first one behind none
	shot map[string]string
}

// told is what Latest tells.
type told struct {
	c, tasks int
	text     string
}

func newModel() *model {
	return &model{disk.New(), []told{{}}, map[string]string{}}
}

func (m *model) last() told {
	return m.safe[len(m.safe)-1]
}

// did notes what counts behind a change.
func (m *model) did(e api.Errno, now told) bool {
	if e == api.OK {
		m.safe = append(m.safe, now)
	}
	return e == api.OK
}

func (m *model) sync() bool {
	if m.d.Sync() != api.OK {
		return false
	}
	m.safe = []told{m.last()}
	return true
}

// anew answers whether it was done, and if not, with what it was refused.
func (m *model) anew(name, body string) (bool, api.Errno) {
	if _, e := m.d.Read(name); e == api.OK {
		if e := m.d.Remove(name); !m.did(e, m.last()) {
			return false, e
		}
	}
	e := m.d.Write(name, 0, frameOf(body))
	return m.did(e, m.last()), e
}

func (m *model) put(c, task int, b string) api.Errno {
	switch {
	case c < 1 || c > 1<<30 || task < 0 || task > 32:
		return api.ErrRange
	case len(b) > 65536:
		return api.ErrLong
	case c <= m.last().c:
		return api.ErrSnap
	}
	_, e := m.anew(fileOf(c, task), b)
	return e
}

func (m *model) commit(c, tasks int, s string) api.Errno {
	switch {
	case c < 1 || c > 1<<30 || tasks < 1 || tasks > 33:
		return api.ErrRange
	case len(s) > 60000:
		return api.ErrLong
	case c <= m.last().c:
		return api.ErrSnap
	}
	for task := range tasks {
		if _, e := m.read(c, task); e != api.OK {
			return api.ErrSnap
		}
	}
	if !m.sync() {
		return api.ErrDown
	}
	if done, e := m.anew("m.new", number(c)+number(tasks)+text(s)); !done {
		return e
	}
	if !m.sync() || !m.did(m.d.Rename("m.new", "m"), told{c, tasks, s}) || !m.sync() {
		return api.ErrDown
	}
	return api.OK
}

func (m *model) read(c, task int) (string, api.Errno) {
	if c < 1 || c > 1<<30 || task < 0 || task > 32 {
		return "", api.ErrRange
	}
	b, e := m.d.Read(fileOf(c, task))
	if e != api.OK {
		return "", api.ErrNone
	}
	if len(b) < 10 || frameOf(b[10:]) != b {
		return "", api.ErrCorrupt
	}
	return b[10:], api.OK
}

var taskFile = regexp.MustCompile(`^s\.([1-9][0-9]*)\.([1-9]|[12][0-9]|3[012]|0)$`)

func (m *model) collect() (int, api.Errno) {
	if m.last().c == 0 {
		return 0, api.ErrNone
	}
	n := 0
	for _, name := range m.d.Names() {
		parts := taskFile.FindStringSubmatch(name)
		if parts == nil || parts[1] == strconv.Itoa(m.last().c) {
			continue
		}
		if c, e := strconv.ParseInt(parts[1], 10, 32); e != nil || c > 1<<30 {
			continue
		}
		if e := m.d.Remove(name); !m.did(e, m.last()) {
			return 0, e
		}
		n++
	}
	return n, api.OK
}

// crash leaves what counted behind the changes that are kept, for a rename is kept whole, or not at all.
func (m *model) crash(keep, torn int) {
	m.d.Crash(keep, torn)
	m.safe = []told{m.safe[min(max(keep, 0), len(m.safe)-1)]}
}

// pair is a disk that package snap is called of, and the model.
type pair struct {
	d *disk.Disk
	m *model
}

func (p *pair) put(t *testing.T, c, task int, b string) {
	t.Helper()
	wantPut(t, p.d, c, task, b, p.m.put(c, task, b))
}

func (p *pair) commit(t *testing.T, c, tasks int, s string) {
	t.Helper()
	wantCommit(t, p.d, c, tasks, s, p.m.commit(c, tasks, s))
}

func (p *pair) collect(t *testing.T) {
	t.Helper()
	n, e := p.m.collect()
	wantCollect(t, p.d, n, e)
}

// write, fuse and crash do to both disks what snap does not do.
func (p *pair) write(name, b string) {
	p.d.Write(name, 0, b)
	p.m.did(p.m.d.Write(name, 0, b), p.m.last())
}

func (p *pair) fuse(n int) {
	p.d.Fuse(n)
	p.m.d.Fuse(n)
}

func (p *pair) crash(keep, torn int) {
	p.d.Crash(keep, torn)
	p.m.crash(keep, torn)
}

// same asks for all that is told, and for the disks' files and changes.
func (p *pair) same(t *testing.T) {
	t.Helper()
	var files []string
	for name, b := range filesOf(p.m.d) {
		files = append(files, name, b)
	}
	wantFiles(t, p.d, files...)
	wantWaiting(t, p.d, p.m.d.Waiting())
	if now := p.m.last(); now.c == 0 {
		wantNoLatest(t, p.d, api.ErrNone)
	} else {
		wantLatest(t, p.d, now.c, now.tasks, now.text, api.OK)
	}
	for c := range 6 {
		for task := range 4 {
			b, e := p.m.read(c, task)
			wantRead(t, p.d, c, task, b, e)
		}
	}
}

// 22.1 to 22.4, R7: all short walks, held against the model, each of them crashed in the end, too.
func TestShortWalks(t *testing.T) {
	steps := []func(p *pair){
		func(p *pair) { p.put(t, 1, 0, "a") },
		func(p *pair) { p.put(t, 2, 0, "bb") },
		func(p *pair) { p.put(t, 2, 1, "") },
		func(p *pair) { p.commit(t, 1, 1, "x") },
		func(p *pair) { p.commit(t, 2, 2, "") },
		func(p *pair) { p.collect(t) },
		func(p *pair) { p.crash(0, 5) },
		func(p *pair) { p.crash(1, -1) },
		func(p *pair) { p.fuse(3) },
	}
	var walk func(way []int)
	walk = func(way []int) {
		p := &pair{disk.New(), newModel()}
		for _, k := range way {
			steps[k](p)
		}
		p.same(t)
		p.crash(2, 3)
		p.same(t)
		if len(way) == 5 {
			return
		}
		for k := range steps {
			walk(append(way, k))
		}
	}
	walk(nil)
}

// 22.1 to 22.4, P1: long walks, with numbers that may not be, files that others wrote, fuses and crashes.
func TestLongWalks(t *testing.T) {
	for seed := range 60 {
		r := rand.New(rand.NewSource(int64(seed)))
		p := &pair{disk.New(), newModel()}
		base := 1
		for range 400 {
			c, task := base+r.Intn(5)-1, r.Intn(5)-1
			switch k := r.Intn(40); {
			case k < 18:
				p.put(t, c, task, bytesOf(r.Intn(20)))
			case k < 27:
				p.commit(t, c, task, strconv.Itoa(r.Intn(1000)))
			case k < 30:
				p.collect(t)
			case k < 32:
				p.fuse(r.Intn(8))
			case k < 35:
				p.crash(r.Intn(9)-1, r.Intn(40)-1)
			case k < 36:
				p.put(t, c, 1, bytesOf(api.MaxFrame+1))
			case k < 37:
				p.write(strangeName(r), "")
			case k < 38:
				p.put(t, []int{0, api.MaxSeq + 1, 1}[r.Intn(3)], []int{maxTask + 1, maxTask}[r.Intn(2)], "")
			default:
				base = max(1, p.m.last().c)
			}
			if p.m.last().c > 4 {
				p = &pair{disk.New(), newModel()}
				base = 1
			}
			p.same(t)
		}
	}
}

func strangeName(r *rand.Rand) string {
	return []string{"s.1", "s.01.0", "s.7.0", "s.7.33", "s.0.0", "t.1", "ledger", "s.1.0.1", "m.new", "s.1073741825.0"}[r.Intn(10)]
}

// R7: two disks of the same history tell the same, and one does not touch the other.
func TestDisksStandApart(t *testing.T) {
	a, b := committed(t, 1, "a"), committed(t, 1, "a")
	wantPut(t, a, 2, 0, "b", api.OK)
	wantCommit(t, a, 2, 1, "y", api.OK)
	wantCollect(t, a, 1, api.OK)
	wantLatest(t, b, 1, 1, "1", api.OK)
	wantRead(t, b, 1, 0, "a", api.OK)
	if _, e := snap.Read(b, 2, 0); e != api.ErrNone {
		t.Errorf("answered %d", e)
	}
}
