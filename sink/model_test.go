package sink_test

import (
	"math/rand"
	"regexp"
	"slices"
	"strconv"
	"testing"

	"weaver/api"
	"weaver/disk"
	"weaver/sink"
)

// transaction is one that the model has begun to commit.
type transaction struct {
	c int
	l []api.Match
}

// frames are those in the ledger, one by one.
func (x transaction) frames() []string {
	l := []string{frameOf(number(x.c))}
	for _, m := range x.l {
		l = append(l, frameOf(matchOf(m)))
	}
	return append(l, frameOf(number(x.c)+number(len(x.l))))
}

// model does by the chapter's steps, on a disk of its own, what package sink does; what was committed it remembers, and knows it again by how long the ledger is.
type model struct {
	d     *disk.Disk
	all   []transaction // those that are committed; behind a refusal one more, in part
	whole int           // how many are committed
	held  []api.Match
	lists map[string][]api.Match // what was prepared, by the files' bytes
}

func newModel() *model {
	return &model{d: disk.New(), lists: map[string][]api.Match{}}
}

func (m *model) last() int {
	if m.whole == 0 {
		return 0
	}
	return m.all[m.whole-1].c
}

func (m *model) ledger() []api.Match {
	var l []api.Match
	for _, x := range m.all[:m.whole] {
		l = append(l, x.l...)
	}
	return l
}

// open finds how many transactions' frames the ledger has, and takes back what stands behind them.
func (m *model) open() api.Errno {
	b, _ := m.d.Read("ledger")
	m.whole, m.held = 0, nil
	at, whole, began := 0, 0, false
	for i, x := range m.all {
		began = false
		for _, f := range x.frames() {
			if at+len(f) > len(b) {
				break
			}
			at += len(f)
			began = true
		}
		if whole+len(committedOf(x.c, x.l...)) != at {
			break
		}
		whole, m.whole, began = at, i+1, false
	}
	m.all = m.all[:m.whole]
	if at < len(b) {
		if e := m.d.Cut("ledger", at); e != api.OK {
			return e
		}
	}
	if !began {
		return api.OK
	}
	if e := m.d.Cut("ledger", whole); e != api.OK {
		return e
	}
	return m.d.Sync()
}

func (m *model) put(x api.Match) api.Errno {
	if len(x.Stages) == 0 {
		return api.ErrEvent
	}
	if len(m.held) >= 1000 {
		return api.ErrLong
	}
	m.held = append(m.held, x)
	return api.OK
}

func (m *model) prepare(c int) api.Errno {
	if c < 1 || c > 1<<30 || c <= m.last() {
		return api.ErrTxn
	}
	if len(listOf(m.held...)) > 65536 {
		return api.ErrLong
	}
	if _, e := m.d.Read(nameOf(c)); e == api.OK {
		if e := m.d.Remove(nameOf(c)); e != api.OK {
			return e
		}
	}
	b := fileOf(m.held...)
	m.lists[b] = m.held
	if e := m.d.Write(nameOf(c), 0, b); e != api.OK {
		return e
	}
	if e := m.d.Sync(); e != api.OK {
		return e
	}
	m.held = nil
	return api.OK
}

var transactionFile = regexp.MustCompile(`^t\.(0|[1-9][0-9]*)$`)

func (m *model) pending() []int {
	var l []int
	for _, name := range m.d.Names() {
		if parts := transactionFile.FindStringSubmatch(name); parts != nil {
			if c, e := strconv.ParseInt(parts[1], 10, 32); e == nil && int(c) > m.last() && c <= 1<<30 {
				l = append(l, int(c))
			}
		}
	}
	slices.Sort(l)
	return l
}

// read finds the matches by the bytes: bytes that were never prepared were torn.
func (m *model) read(c int) (transaction, bool) {
	b, _ := m.d.Read(nameOf(c))
	l, ok := m.lists[b]
	return transaction{c, l}, ok
}

func (m *model) commit(c int) api.Errno {
	if c >= 1 && c <= m.last() {
		return api.OK
	}
	if l := m.pending(); len(l) == 0 || slices.Index(l, c) != 0 {
		return api.ErrTxn
	}
	x, ok := m.read(c)
	if !ok {
		return api.ErrCorrupt
	}
	if e := m.d.Sync(); e != api.OK {
		return e
	}
	m.all = append(m.all, x)
	b, _ := m.d.Read("ledger")
	at := len(b)
	for _, f := range x.frames() {
		if e := m.d.Write("ledger", at, f); e != api.OK {
			return e
		}
		at += len(f)
	}
	if e := m.d.Sync(); e != api.OK {
		return e
	}
	m.whole++
	return m.d.Remove(nameOf(c))
}

func (m *model) recover(c int) api.Errno {
	if c < m.last() || c > 1<<30 {
		return api.ErrTxn
	}
	upTo := slices.DeleteFunc(m.pending(), func(n int) bool { return n > c })
	for _, n := range upTo {
		if _, ok := m.read(n); !ok {
			return api.ErrCorrupt
		}
	}
	for _, n := range upTo {
		if e := m.commit(n); e != api.OK {
			return e
		}
	}
	for _, name := range m.d.Names() {
		if transactionFile.MatchString(name) {
			if e := m.d.Remove(name); e != api.OK {
				return e
			}
		}
	}
	if e := m.d.Sync(); e != api.OK {
		return e
	}
	m.held = nil
	return api.OK
}

// pair is a sink and the model, each on its disk; done is true when the disk has refused, and the sink is not to be asked any more.
type pair struct {
	d    *disk.Disk
	s    *sink.Sink
	m    *model
	done bool
}

func newPair(t *testing.T) *pair {
	t.Helper()
	d := disk.New()
	return &pair{d: d, s: opened(t, d), m: newModel()}
}

// is asks for the model's error.
func (p *pair) is(t *testing.T, call string, c int, got, want api.Errno) {
	t.Helper()
	if got != want {
		t.Fatalf("%s %d = %d, want %d", call, c, got, want)
	}
	p.done = want == api.ErrDown || want == api.ErrFull
}

func (p *pair) put(t *testing.T, x api.Match) {
	t.Helper()
	p.is(t, "Put", len(p.m.held), p.s.Put(x), p.m.put(x))
}

func (p *pair) prepare(t *testing.T, c int) {
	t.Helper()
	p.is(t, "Prepare", c, p.s.Prepare(c), p.m.prepare(c))
}

func (p *pair) commit(t *testing.T, c int) {
	t.Helper()
	p.is(t, "Commit", c, p.s.Commit(c), p.m.commit(c))
}

func (p *pair) recover(t *testing.T, c int) {
	t.Helper()
	p.is(t, "Recover", c, p.s.Recover(c), p.m.recover(c))
}

// open may be refused by a fuse that was put in ahead.
func (p *pair) open(t *testing.T) {
	t.Helper()
	s, e := sink.Open(p.d)
	p.is(t, "Open", 0, e, p.m.open())
	p.s = s
}

// write, fuse and crash do to both disks what the sink does not do.
func (p *pair) write(name, b string) {
	p.d.Write(name, 0, b)
	p.m.d.Write(name, 0, b)
}

func (p *pair) fuse(n int) {
	p.d.Fuse(n)
	p.m.d.Fuse(n)
}

func (p *pair) crash(t *testing.T, keep, torn int) {
	t.Helper()
	p.d.Crash(keep, torn)
	p.m.d.Crash(keep, torn)
	p.open(t)
}

// same asks for all that is told, of a sink that may be asked, and for the disks' files and changes.
func (p *pair) same(t *testing.T) {
	t.Helper()
	var files []string
	for name, b := range filesOf(p.m.d) {
		files = append(files, name, b)
	}
	wantFiles(t, p.d, files...)
	wantWaiting(t, p.d, p.m.d.Waiting())
	if !p.done {
		wantLedger(t, p.s, p.m.ledger()...)
		wantState(t, p.s, p.m.last(), len(p.m.held), p.m.pending()...)
	}
}

// 23.1 to 23.4, R7: all short walks, held against the model, each of them crashed in the end, too.
func TestShortWalks(t *testing.T) {
	steps := []func(p *pair){
		func(p *pair) { p.put(t, two("a", len(p.m.held))) },
		func(p *pair) { p.prepare(t, 1) },
		func(p *pair) { p.prepare(t, 2) },
		func(p *pair) { p.commit(t, 1) },
		func(p *pair) { p.commit(t, 2) },
		func(p *pair) { p.recover(t, 1) },
		func(p *pair) { p.recover(t, 2) },
		func(p *pair) { p.crash(t, 0, -1) },
		func(p *pair) { p.crash(t, 2, 7) },
		func(p *pair) { p.fuse(3) },
	}
	const long = 5
	walks := 1
	for range long {
		walks *= len(steps)
	}
	for walk := range walks {
		p, n := newPair(t), walk
		for range long {
			if p.done {
				p.crash(t, 1, 4)
			}
			steps[n%len(steps)](p)
			n /= len(steps)
		}
		p.same(t)
		p.crash(t, walk%3, walk%19-1)
		p.same(t)
	}
}

// aMatch is one that may be, mostly short.
func aMatch(r *rand.Rand) api.Match {
	m := api.Match{Key: strconv.Itoa(r.Intn(3))}
	at := r.Intn(300)
	for range 1 + r.Intn(3) {
		var stage []int
		for range 1 + r.Intn(3) {
			stage = append(stage, at)
			at += 1 + r.Intn(300)
		}
		m.Stages = append(m.Stages, stage)
	}
	return m
}

// walk takes a step, of numbers near to those that are there.
func (p *pair) walk(t *testing.T, r *rand.Rand) {
	t.Helper()
	near := p.m.last() + r.Intn(6) - 1
	switch r.Intn(16) {
	case 0, 1, 2, 3, 4, 5:
		p.put(t, aMatch(r))
	case 6, 7, 8:
		p.prepare(t, near)
	case 9, 10:
		p.commit(t, near)
	case 11:
		if l := p.m.pending(); len(l) > 0 {
			p.commit(t, l[0])
		}
	case 12:
		p.recover(t, near)
	case 13:
		p.fuse(r.Intn(12))
	case 14:
		p.crash(t, r.Intn(9)-1, r.Intn(60)-1)
	case 15:
		switch r.Intn(8) {
		case 0:
			p.put(t, api.Match{Key: "k"})
		case 1:
			p.write("t.0", "x")
		case 2:
			p.write(nameOf(p.m.last()), "z")
		case 3:
			p.open(t)
		case 4:
			for range r.Intn(1200) {
				p.put(t, one(1))
			}
		case 5:
			p.prepare(t, api.MaxSeq)
			if !p.done && len(p.m.held) == 0 {
				p.recover(t, near)
			}
		}
	}
}

// 23.1 to 23.4, R7: long walks, held against the model at each step.
func TestLongWalks(t *testing.T) {
	for seed := range int64(100) {
		r := rand.New(rand.NewSource(seed))
		p := newPair(t)
		for range 120 {
			if p.done {
				p.crash(t, r.Intn(14)-1, r.Intn(60)-1)
			} else {
				p.walk(t, r)
			}
			p.same(t)
		}
	}
}
