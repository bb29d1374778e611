package run_test

import (
	"math"
	"math/rand"
	"slices"
	"strings"
	"testing"

	"weaver/api"
	"weaver/event"
	"weaver/pack"
	"weaver/run"
)

func bytesOf(x api.Event) string {
	b, _ := event.Encode(x)
	return b
}

// goodPattern and good go together: a run that has seen nine events, with four partial matches.
const goodPattern = "start a: type == 'x'; any b+: type == 'y' and a.n0 < n0; then c: type == 'z'; any d+: type == 'w'; within 6"

func good() state {
	x, y, z, w := bytesOf(typed("x")[0]), bytesOf(typed("xy")[1]), bytesOf(typed("xyz")[2]), bytesOf(typed("xyzw")[3])
	return state{key: "k", seen: 9, many: 4, partials: []savedPartial{
		{[][]int{{4}, {5, 7}, {8}}, []string{x, y, z}, 0, 1},
		{[][]int{{5}, {6}, {7}, {8}}, []string{x, y, z, w}, 1, 0},
		{[][]int{{6}}, []string{x}, 0, 1},
		{[][]int{{6}, {7}}, []string{x, y}, 1, 1},
	}}
}

func wantRefused(t *testing.T, p api.Pattern, b string, want api.Errno) {
	t.Helper()
	if r, e := run.Load(p, b); e != want || r != nil {
		t.Errorf("%q: %v, %d, want %d", b, r, e, want)
	}
}

// 15.3: what is wrong is found, each thing by itself.
func TestLoadRefuses(t *testing.T) {
	p := read(goodPattern)
	if b := good().bytes(t); saved(t, loaded(t, p, b)) != b {
		t.Fatal("the good one is not")
	}
	other := typed("x")[0]
	other.Key = "j"
	for name, change := range map[string]func(s *state){
		"no key":                     func(s *state) { *s = state{} },
		"a key that is no name":      func(s *state) { *s = state{key: "K"} },
		"a long key":                 func(s *state) { *s = state{key: strings.Repeat("k", api.MaxName+1)} },
		"another key":                func(s *state) { s.key = "kk" },
		"seen below 0":               func(s *state) { *s = state{key: "k", seen: -1} },
		"seen above all":             func(s *state) { *s = state{key: "k", seen: api.MaxSeq + 1} },
		"a place that is not seen":   func(s *state) { s.seen = 8 },
		"nothing seen":               func(s *state) { s.seen = 0 },
		"a window that is over":      func(s *state) { s.seen = 10 },
		"a first place too early":    func(s *state) { s.partials[0].stages[0][0] = 3 },
		"fewer partial matches":      func(s *state) { s.many = 3 },
		"more partial matches":       func(s *state) { s.many = 5 },
		"partial matches below 0":    func(s *state) { *s = state{key: "k", many: -1} },
		"too many partial matches":   func(s *state) { s.many = api.MaxLive + 1 },
		"out of order":               func(s *state) { s.partials[0], s.partials[1] = s.partials[1], s.partials[0] },
		"more stages ahead of fewer": func(s *state) { s.partials[2], s.partials[3] = s.partials[3], s.partials[2] },
		"the same twice":             func(s *state) { s.partials[1] = s.partials[0] },
		"the same with other roads": func(s *state) {
			s.partials[2] = s.partials[3]
			s.partials[2].take = 0
		},
		"no stages": func(s *state) { s.partials[2].stages, s.partials[2].lasts = nil, nil },
		"too many stages": func(s *state) {
			l := s.partials[1].lasts
			s.partials[0] = savedPartial{[][]int{{4}, {5}, {6}, {7}, {8}}, append(l, l[3]), 1, 0}
		},
		"a stage without places": func(s *state) { s.partials[3].stages[1] = nil },
		"two places of a single": func(s *state) { s.partials[2].stages[0] = []int{6, 7} },
		"places that fall":       func(s *state) { s.partials[0].stages[1] = []int{7, 5} },
		"places that stay":       func(s *state) { s.partials[0].stages[1] = []int{5, 5} },
		"stages that fall":       func(s *state) { s.partials[3].stages[1] = []int{5} },
		"stages that stay":       func(s *state) { s.partials[3].stages[1] = []int{6} },
		"a place at the end":     func(s *state) { s.partials[3].stages[1] = []int{9} },
		"a place below 0": func(s *state) {
			x := savedPartial{[][]int{{-1}}, s.partials[2].lasts, 0, 1}
			*s = state{key: "k", seen: 1, many: 1, partials: []savedPartial{x}}
		},
		"no event":                    func(s *state) { s.partials[2].lasts[0] = "" },
		"an event and more":           func(s *state) { s.partials[2].lasts[0] += "\x01\x00" },
		"an event of another key":     func(s *state) { s.partials[2].lasts[0] = bytesOf(other) },
		"an event that may not be":    func(s *state) { s.partials[2].lasts[0] = "\x02\x02k\x02\x02X\x01\x00\x01\x00\x01\x00\x01\x00\x02\x00" },
		"an event that does not hold": func(s *state) { s.partials[2].lasts[0] = s.partials[3].lasts[1] },
		"one that does not hold with another": func(s *state) {
			s.partials[3].lasts[1] = bytesOf(api.Event{Key: "k", Type: "y"})
		},
		"a loop that may not be": func(s *state) { s.partials[2].loop = 1 },
		"a take that may not be": func(s *state) { s.partials[1].take = 1 },
		"a road of 2":            func(s *state) { s.partials[3].loop = 2 },
		"a road of -1":           func(s *state) { s.partials[3].take = -1 },
		"a take of 2":            func(s *state) { s.partials[2].take = 2 },
		"a dead node":            func(s *state) { s.partials[2].take = 0 },
		"another dead node":      func(s *state) { s.partials[3].loop, s.partials[3].take = 0, 0 },
		"a final one's dead":     func(s *state) { s.partials[1].loop = 0 },
	} {
		s := good()
		change(&s)
		b := s.bytes(t)
		if couldBeSaved(p, b) {
			t.Error(name)
		}
		wantRefused(t, p, b, api.ErrState)
	}
}

// 15.3: numbers where texts stand, texts where numbers do, fewer items and more, great numbers.
func TestLoadItems(t *testing.T) {
	p, l := read(goodPattern), good().items()
	refused := func(l []api.Item) {
		t.Helper()
		b, e := pack.Encode(l)
		if e != api.OK {
			t.Fatal(e)
		}
		if couldBeSaved(p, b) {
			t.Errorf("%q", b)
		}
		wantRefused(t, p, b, api.ErrState)
	}
	for i := range l {
		refused(l[:i])
		for _, x := range []api.Item{number(math.MinInt64), number(math.MaxInt64), number(1 << 32), number(1<<32 + int(l[i].N)), text(""), text("k\x00")} {
			other := slices.Clone(l)
			other[i] = x
			refused(other)
		}
		refused(slices.Delete(slices.Clone(l), i, i+1))
	}
	refused(append(slices.Clone(l), number(0)))
	refused(append(slices.Clone(l), text("")))
	refused(append(slices.Clone(l), l...))
}

// 15.3: bytes that are no list.
func TestLoadBytes(t *testing.T) {
	p, b := read(goodPattern), good().bytes(t)
	for i := range len(b) {
		wantRefused(t, p, b[:i], api.ErrState)
	}
	for _, s := range []string{"", "x", "\x00", b + "\x00", b + "\x01", b + "\x02\x02", "\x03" + b} {
		wantRefused(t, p, s, api.ErrState)
	}
	wantRefused(t, p, strings.Repeat("\x01\x00", api.MaxItems+1), api.ErrState)
}

// 15.3, R1: a pattern that may not be is told ahead of all, and too many bytes ahead of what they say.
func TestLoadOrder(t *testing.T) {
	b := good().bytes(t)
	long := strings.Repeat("x", api.MaxBytes+1)
	for _, p := range wrongPatterns() {
		for _, s := range []string{b, "", "x", long} {
			wantRefused(t, p, s, api.ErrPattern)
		}
	}
	p := read(goodPattern)
	wantRefused(t, p, long, api.ErrLong)
	wantRefused(t, p, b+strings.Repeat("\x01\x00", api.MaxBytes/2), api.ErrLong)
	wantRefused(t, p, long[1:], api.ErrState)
}

// 15.3: the edges of what may be: the most that can be seen, and windows that are as wide as they may be.
func TestLoadEdges(t *testing.T) {
	p := read(goodPattern)
	x := good().partials[2]
	for _, seen := range []int{0, 1, api.MaxSeq - 1, api.MaxSeq} {
		s := state{key: "k", seen: seen}
		if r := loaded(t, p, s.bytes(t)); r.Seen() != seen || r.Live() != 0 || len(r.Partials()) != 0 {
			t.Error(seen, r.Seen(), r.Live())
		}
		for first := max(0, seen-p.Within-2); first < seen+2; first++ {
			x.stages = [][]int{{first}}
			s.many, s.partials = 1, []savedPartial{x}
			if wantLoad(t, p, s.bytes(t)) != (first < seen && seen-first < p.Within) {
				t.Error(seen, first)
			}
		}
	}
	long := strings.Repeat("k", api.MaxName)
	if r := loaded(t, p, state{key: long}.bytes(t)); r.Seen() != 0 {
		t.Error(r.Seen())
	}
}

// 15.3: states of another pattern are right where this one could have told them.
func TestLoadOtherPattern(t *testing.T) {
	b := good().bytes(t)
	for _, p := range []string{
		"start a: type == 'x'; any b: type == 'y'; then c: type == 'z'; any d+: type == 'w'; within 6",
		"start a: type == 'x'; any b+: type == 'y'; then c: type == 'z'; within 6",
		"start a: type == 'x'; any b+: type == 'y'; then c: type == 'z'; any d: type == 'w'; within 6",
		"start a: type == 'x'; any b+: type == 'y'; then c: type == 'z'; any d+: type == 'w'; within 5",
		"start a: type == 'x'; any b+: type == 'y'; then c: type == 'y'; any d+: type == 'w'; within 6",
	} {
		wantRefused(t, read(p), b, api.ErrState)
	}
	for _, p := range []string{
		"start a: type == 'x'; any b+: type == 'y'; then c: type == 'z'; any d+: type == 'w'; within 7",
		"start e: 0 < 1; next f+: type == 'y'; then c: e.n0 < n0; any d+: type == 'w'; any g: 0 < 1; within 256",
	} {
		if !wantLoad(t, read(p), b) {
			t.Error(p)
		}
	}
}

// 15.3, P1: saved states with an item or a byte changed, left out or put in, held against the list.
func TestLoadChanged(t *testing.T) {
	r := rand.New(rand.NewSource(3))
	right, wrong := 0, 0
	for range 400 {
		p := somePattern(r, 4, 9)
		b, e := fed(t, p, someEvents(r, r.Intn(9))).Save()
		if e != api.OK {
			continue
		}
		for range 40 {
			if wantLoad(t, p, changed(r, b)) {
				right++
			} else {
				wrong++
			}
		}
	}
	if right < 500 || wrong < 5000 {
		t.Error(right, wrong)
	}
}

func changed(r *rand.Rand, b string) string {
	l, _ := pack.Decode(b)
	i := r.Intn(len(l))
	switch r.Intn(5) {
	case 0:
		l[i].N += int64(1 - 2*r.Intn(2))
	case 1:
		l[i] = l[r.Intn(len(l))]
	case 2:
		l = slices.Delete(l, i, i+1)
	case 3:
		l = slices.Insert(l, i, l[r.Intn(len(l))])
	case 4:
		at := r.Intn(len(b))
		return b[:at] + string([]byte{byte(r.Intn(256))}) + b[at+1:]
	}
	out, e := pack.Encode(l)
	if e != api.OK {
		return ""
	}
	return out
}
