package disk_test

import (
	"maps"
	"math"
	"math/rand"
	"strconv"
	"testing"

	"weaver/api"
	"weaver/disk"
)

// 3.4: the chapter's example.
func TestCrashExample(t *testing.T) {
	for _, x := range []struct {
		keep, torn int
		left       map[string]string
	}{
		{1, 1, map[string]string{"a": "xyz", "b": "u"}},
		{0, -1, map[string]string{"a": "xy"}},
	} {
		d := diskOf(t, "a", "xy")
		want(t, d.Write("a", 2, "z"), api.OK)
		want(t, d.Write("b", 0, "uv"), api.OK)
		d.Crash(x.keep, x.torn)
		wantState(t, d, x.left)
		wantWaiting(t, d, 0)
	}
}

// 3.4: how many changes are kept.
func TestCrashKeeps(t *testing.T) {
	states := []map[string]string{
		{"a": "xyz", "b": "uv"},
		{"a": "xQz", "b": "uv"},
		{"a": "xQ", "b": "uv"},
		{"b": "xQ"},
		{},
		{"b": "new"},
	}
	last := len(states) - 1
	for _, keep := range []int{math.MinInt, -2, -1, 0, 1, 2, 3, 4, 5, 6, 7, math.MaxInt} {
		d := diskOf(t, "a", "xyz", "b", "uv")
		want(t, d.Write("a", 1, "Q"), api.OK)
		want(t, d.Cut("a", 2), api.OK)
		want(t, d.Rename("a", "b"), api.OK)
		want(t, d.Remove("b"), api.OK)
		want(t, d.Write("b", 0, "new"), api.OK)
		wantState(t, d, states[last])
		wantWaiting(t, d, last)
		d.Crash(keep, -1)
		left := states[min(max(keep, 0), last)]
		wantState(t, d, left)
		wantWaiting(t, d, 0)
		// What was not kept does not come back.
		d.Crash(9, 9)
		wantState(t, d, left)
	}
}

// 3.4: how a write is torn: over what is there, past its end, and of a file that is not there.
func TestCrashTears(t *testing.T) {
	for _, x := range []struct {
		name string
		at   int
		left []string // by torn from 0 on
	}{
		{"a", 1, []string{"xyz", "xNz", "xNO", "xNOP"}},
		{"a", 0, []string{"xyz", "Nyz", "NOz", "NOP"}},
		{"a", 3, []string{"xyz", "xyzN", "xyzNO", "xyzNOP"}},
		{"c", 0, []string{"", "N", "NO", "NOP"}},
	} {
		for _, torn := range []int{math.MinInt, -1, 0, 1, 2, 3, 4, math.MaxInt} {
			for _, keep := range []int{math.MinInt, -1, 0} {
				d := diskOf(t, "a", "xyz", "b", "uv")
				want(t, d.Write(x.name, x.at, "NOP"), api.OK)
				want(t, d.Write("b", 0, "?"), api.OK)
				d.Crash(keep, torn)
				left := map[string]string{"a": "xyz", "b": "uv"}
				if torn >= 0 {
					left[x.name] = x.left[min(torn, 3)]
				}
				wantState(t, d, left)
				wantWaiting(t, d, 0)
				d.Crash(1, 9)
				wantState(t, d, left)
			}
		}
	}
}

// 3.4: a write of no bytes that is torn makes its file, if torn is not below 0.
func TestCrashTearsNoBytes(t *testing.T) {
	for _, torn := range []int{-1, 0, 1} {
		d := diskOf(t, "a", "xyz")
		want(t, d.Write("a", 1, ""), api.OK)
		want(t, d.Write("b", 0, ""), api.OK)
		d.Crash(1, torn)
		left := map[string]string{"a": "xyz"}
		if torn >= 0 {
			left["b"] = ""
		}
		wantState(t, d, left)
	}
}

// 3.4: what is no write is not torn; nothing behind it is made.
func TestCrashTearsWritesAlone(t *testing.T) {
	for _, torn := range []int{-1, 0, 1, 2, 9} {
		for _, change := range []func(d *disk.Disk) api.Errno{
			func(d *disk.Disk) api.Errno { return d.Cut("a", 1) },
			func(d *disk.Disk) api.Errno { return d.Rename("a", "c") },
			func(d *disk.Disk) api.Errno { return d.Rename("a", "b") },
			func(d *disk.Disk) api.Errno { return d.Rename("a", "a") },
			func(d *disk.Disk) api.Errno { return d.Remove("a") },
		} {
			d := diskOf(t, "a", "xyz", "b", "uv")
			want(t, d.Write("b", 0, "U"), api.OK)
			want(t, change(d), api.OK)
			want(t, d.Write("b", 0, "??"), api.OK)
			d.Crash(1, torn)
			wantState(t, d, map[string]string{"a": "xyz", "b": "Uv"})
		}
	}
}

// 3.4: with nothing that waits a crash has nothing to keep or to tear; what is made behind it begins anew.
func TestCrashOfNothing(t *testing.T) {
	for _, keep := range []int{-1, 0, 1} {
		for _, torn := range []int{-1, 0, 1} {
			d := disk.New()
			d.Crash(keep, torn)
			wantState(t, d, map[string]string{})
			want(t, d.Write("a", 0, "xy"), api.OK)
			wantWaiting(t, d, 1)
			d.Crash(0, 1)
			want(t, d.Write("a", 1, "zz"), api.OK)
			wantState(t, d, map[string]string{"a": "xzz"})
			d.Crash(0, -1)
			wantState(t, d, map[string]string{"a": "x"})
		}
	}
}

// 3.3, 3.5: behind a sync a crash changes nothing; behind one that was refused it does.
func TestCrashBehindSync(t *testing.T) {
	for _, keep := range []int{math.MinInt, -1, 0, 1, math.MaxInt} {
		for _, torn := range []int{math.MinInt, -1, 0, 1, math.MaxInt} {
			d := diskOf(t, "a", "xyz", "b", "uv", "c", "")
			want(t, d.Write("a", 1, "Q"), api.OK)
			want(t, d.Rename("b", "c"), api.OK)
			want(t, d.Cut("c", 1), api.OK)
			want(t, d.Remove("a"), api.OK)
			want(t, d.Write("d", 0, "new"), api.OK)
			want(t, d.Sync(), api.OK)
			wantWaiting(t, d, 0)
			d.Crash(keep, torn)
			wantState(t, d, map[string]string{"c": "u", "d": "new"})

			want(t, d.Write("d", 0, "N"), api.OK)
			want(t, d.Fuse(0), api.OK)
			want(t, d.Sync(), api.ErrDown)
			wantWaiting(t, d, 1)
			d.Crash(0, -1)
			wantState(t, d, map[string]string{"c": "u", "d": "new"})
		}
	}
}

// 3.6: a file that is put in the place of another one is there whole, or not at all, wherever the fuse burns and whatever is kept and torn.
func TestPutInPlace(t *testing.T) {
	for fuse := range 6 {
		for keep := -1; keep < 4; keep++ {
			for torn := -1; torn < 6; torn++ {
				d := diskOf(t, "m", "old")
				want(t, d.Fuse(fuse), api.OK)
				for _, call := range []func() api.Errno{
					func() api.Errno { return d.Write("m.new", 0, "ne") },
					func() api.Errno { return d.Write("m.new", 2, "wer") },
					d.Sync,
					func() api.Errno { return d.Rename("m.new", "m") },
					d.Sync,
				} {
					if call() != api.OK {
						break
					}
				}
				d.Crash(keep, torn)
				left := "old"
				if fuse == 4 && keep > 0 || fuse == 5 {
					left = "newer"
				}
				if s, e := d.Read("m"); s != left || e != api.OK {
					t.Errorf("fuse %d, keep %d, torn %d: %q, %d", fuse, keep, torn, s, e)
				}
			}
		}
	}
}

// step is a change that a model was given; a write has its data.
type step struct {
	write bool
	name  string
	at    int
	data  string
}

// model is a disk as the chapter's words say it: all states that a crash may leave, the safe one ahead.
type model struct {
	states []map[string]string
	steps  []step
	fuse   int // -1: none
	down   bool
}

func (m *model) now() map[string]string { return m.states[len(m.states)-1] }

// takes is what is told of a change that only room and the fuse can refuse.
func (m *model) takes(full bool) api.Errno {
	if full {
		return api.ErrFull
	}
	if m.down || m.fuse == 0 {
		m.down = true
		return api.ErrDown
	}
	if m.fuse > 0 {
		m.fuse--
	}
	return api.OK
}

func (m *model) add(s step, full bool, change func(f map[string]string)) api.Errno {
	e := m.takes(full || len(m.steps) >= api.MaxWrites)
	if e == api.OK {
		f := maps.Clone(m.now())
		change(f)
		m.states, m.steps = append(m.states, f), append(m.steps, s)
	}
	return e
}

func laidOver(old string, at int, data string) string {
	if at+len(data) >= len(old) {
		return old[:at] + data
	}
	return old[:at] + data + old[at+len(data):]
}

func (m *model) write(name string, at int, data string) api.Errno {
	old, there := m.now()[name]
	if at < 0 || at > len(old) {
		return api.ErrRange
	}
	sum := len(laidOver(old, at, data)) - len(old)
	for _, s := range m.now() {
		sum += len(s)
	}
	full := sum > api.MaxBytes || !there && len(m.now()) >= api.MaxFiles
	return m.add(step{true, name, at, data}, full, func(f map[string]string) { f[name] = laidOver(old, at, data) })
}

func (m *model) cut(name string, length int) api.Errno {
	old, there := m.now()[name]
	if !there {
		return api.ErrNone
	}
	if length < 0 || length > len(old) {
		return api.ErrRange
	}
	return m.add(step{}, false, func(f map[string]string) { f[name] = old[:length] })
}

func (m *model) rename(from, to string) api.Errno {
	old, there := m.now()[from]
	if !there {
		return api.ErrNone
	}
	return m.add(step{}, false, func(f map[string]string) { delete(f, from); f[to] = old })
}

func (m *model) remove(name string) api.Errno {
	if _, there := m.now()[name]; !there {
		return api.ErrNone
	}
	return m.add(step{}, false, func(f map[string]string) { delete(f, name) })
}

func (m *model) sync() api.Errno {
	e := m.takes(false)
	if e == api.OK {
		m.states, m.steps = []map[string]string{m.now()}, nil
	}
	return e
}

func (m *model) crash(keep, torn int) {
	keep = min(max(keep, 0), len(m.steps))
	left := maps.Clone(m.states[keep])
	if keep < len(m.steps) && m.steps[keep].write && torn >= 0 {
		s := m.steps[keep]
		left[s.name] = laidOver(left[s.name], s.at, s.data[:min(torn, len(s.data))])
	}
	*m = model{states: []map[string]string{left}, fuse: -1}
}

// walk does one call, chosen by r, of the disk and of the model, and holds what they tell against each other.
func walk(t *testing.T, r *rand.Rand, d *disk.Disk, m *model, names int) {
	name := func() string { return "f." + strconv.Itoa(r.Intn(names)) }
	a, b, n := name(), name(), r.Intn(9)-2
	data := []string{"", "N", "MN", "KLMN", "\x00\xff", bytesOf(1 << 15)}[r.Intn(6)]
	switch k := r.Intn(40); {
	case k < 16:
		if k < 6 { // at the file's end, as tapes are written
			n = len(m.now()[a])
		}
		want(t, d.Write(a, n, data), m.write(a, n, data))
	case k < 22:
		want(t, d.Cut(a, n), m.cut(a, n))
	case k < 29:
		want(t, d.Rename(a, b), m.rename(a, b))
	case k < 34:
		want(t, d.Remove(a), m.remove(a))
	case k < 36:
		want(t, d.Sync(), m.sync())
	case k == 36 && n >= 0:
		want(t, d.Fuse(3*n), api.OK)
		m.fuse = 3 * n
	case k < 39:
		torn := r.Intn(7) - 1
		d.Crash(n, torn)
		m.crash(n, torn)
	}
	wantState(t, d, m.now())
	wantWaiting(t, d, len(m.steps))
}

// 3.1 to 3.5: long walks, with few names and with more than there may be files.
func TestWalks(t *testing.T) {
	for seed := range 60 {
		names := []int{2, 4, 100}[seed%3]
		r := rand.New(rand.NewSource(int64(seed)))
		d, m := disk.New(), &model{states: []map[string]string{{}}, fuse: -1}
		for range 400 {
			walk(t, r, d, m, names)
			if t.Failed() {
				t.Fatal("seed", seed)
			}
		}
	}
}

// 3.5: whatever a crash keeps, it is a state that was; but for a part of one write.
func TestCrashLeavesWhatWas(t *testing.T) {
	r := rand.New(rand.NewSource(5))
	for range 2000 {
		d := diskOf(t, "f.0", "xyz")
		was := []map[string]string{state(t, d)}
		for range 8 {
			m := &model{states: []map[string]string{was[len(was)-1]}, fuse: -1}
			a, n := "f."+strconv.Itoa(r.Intn(3)), r.Intn(3)
			switch r.Intn(4) {
			case 0:
				want(t, d.Write(a, n, "MN"), m.write(a, n, "MN"))
			case 1:
				want(t, d.Cut(a, n), m.cut(a, n))
			case 2:
				want(t, d.Rename(a, "f.1"), m.rename(a, "f.1"))
			case 3:
				want(t, d.Remove(a), m.remove(a))
			}
			was = append(was, m.states[1:]...)
		}
		keep := r.Intn(10)
		d.Crash(keep, -1)
		wantState(t, d, was[min(keep, len(was)-1)])
	}
}

// P1: no call panics, whatever it is given and in whatever order.
func TestNoPanic(t *testing.T) {
	names := []string{"", ".", "a", "A", "a/b", bytesOf(api.MaxName), bytesOf(api.MaxName + 1), "\xff"}
	numbers := []int{math.MinInt, -1, 0, 1, 2, api.MaxBytes, api.MaxBytes + 1, math.MaxInt}
	texts := []string{"", "x", bytesOf(api.MaxBytes), bytesOf(api.MaxBytes + 1)}
	d := disk.New()
	for _, n := range numbers {
		for _, a := range names {
			for _, s := range texts {
				d.Write(a, n, s)
			}
			d.Read(a)
			d.Cut(a, n)
			d.Write(a, 0, "xy")
			for _, b := range names {
				d.Rename(a, b)
			}
			d.Remove(a)
			for _, torn := range numbers {
				d.Write("a", 0, "xy")
				d.Fuse(n)
				d.Sync()
				d.Crash(n, torn)
			}
		}
		d.Names()
		d.Waiting()
	}
}
