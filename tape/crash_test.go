package tape_test

import (
	"math"
	"math/rand"
	"slices"
	"strconv"
	"testing"

	"weaver/api"
	"weaver/disk"
	"weaver/tape"
)

// 4.3: the chapter's example.
func TestCrashExample(t *testing.T) {
	d := disk.New()
	x := opened(t, d, "a")
	want(t, x.Append("a"), api.OK)
	want(t, x.Sync(), api.OK)
	want(t, x.Append("b"), api.OK)
	want(t, x.Append("c"), api.OK)
	d.Crash(1, 5)
	wantFiles(t, d, "a", framesOf("a", "b")+frameOf("c")[:5])
	wantTexts(t, opened(t, d, "a"), "a", "b")
	wantFiles(t, d, "a", framesOf("a", "b"))
}

// 4.3: a crash that keeps nothing, a part, all, and tears at each byte of a frame.
func TestCrashKeepsBeginning(t *testing.T) {
	texts := []string{"safe", "", "one", "", "fourth", "WF"}
	for synced := range len(texts) + 1 {
		for _, keep := range []int{math.MinInt, -1, 0, 1, 2, 3, 4, 5, 6, 7, math.MaxInt} {
			for _, torn := range []int{math.MinInt, -1, 0, 1, 2, 3, 6, 9, 10, 11, 13, 15, 16, 17, math.MaxInt} {
				d := disk.New()
				x := opened(t, d, "a")
				for i, s := range texts {
					if i == synced {
						want(t, x.Sync(), api.OK)
					}
					want(t, x.Append(s), api.OK)
				}
				if synced == len(texts) {
					want(t, x.Sync(), api.OK)
				}
				d.Crash(keep, torn)
				kept := synced + min(max(keep, 0), len(texts)-synced)
				if kept < len(texts) && torn >= len(frameOf(texts[kept])) {
					kept++
				}
				x = opened(t, d, "a")
				wantTexts(t, x, texts[:kept]...)
				want(t, x.Append("behind"), api.OK)
				want(t, x.Sync(), api.OK)
				d.Crash(0, -1)
				wantTexts(t, opened(t, d, "a"), append(slices.Clone(texts[:kept]), "behind")...)
			}
		}
	}
}

// 4.3: a crash ahead of the sync of what Open cut off brings the end back, which is cut off again.
func TestCrashAheadOfCut(t *testing.T) {
	for keep := range 4 {
		for torn := -1; torn < 13; torn++ {
			d := diskOf(t, "a", framesOf("a", "b")+frameOf("c")[:7])
			x := opened(t, d, "a")
			want(t, x.Append("d"), api.OK)
			want(t, x.Append("e"), api.OK)
			d.Crash(keep, torn)
			texts := []string{"a", "b", "d", "e"}
			kept := 2 + max(0, keep-1)
			if keep >= 1 && kept < 4 && torn >= 11 {
				kept++
			}
			wantTexts(t, opened(t, d, "a"), texts[:kept]...)
		}
	}
}

// 4.3: a byte of a frame behind its number that is another one is found, wherever the frame stands.
func TestByteChanged(t *testing.T) {
	texts := []string{"a", "", "four", "WF"}
	b := framesOf(texts...)
	at := 0
	for _, s := range texts {
		for i := at + 6; i < at+10+len(s); i++ {
			for _, flip := range []byte{1, 2, 64, 128, 255, 'W', b[i]} {
				if flip == 0 {
					continue
				}
				other := b[:i] + string([]byte{b[i] ^ flip}) + b[i+1:]
				d := diskOf(t, "a", b)
				want(t, d.Write("a", i, other[i:i+1]), api.OK)
				wantRefused(t, d, "a", api.ErrCorrupt)
				wantFiles(t, d, "a", other)
				wantWaiting(t, d, 1)
				want(t, d.Write("a", i, b[i:i+1]), api.OK)
				wantTexts(t, opened(t, d, "a"), texts...)
			}
		}
		at += 10 + len(s)
	}
}

// walker holds tapes of one disk against lists of their texts.
type walker struct {
	r      *rand.Rand
	d      *disk.Disk
	names  []string
	tapes  []*tape.Tape
	texts  [][]string // what each tape was given
	synced []int      // how many of them were there at the last sync
}

func (w *walker) open(t *testing.T) {
	t.Helper()
	for i, name := range w.names {
		w.tapes[i] = opened(t, w.d, name)
		n := w.tapes[i].Len()
		if n < w.synced[i] || n > len(w.texts[i]) {
			t.Fatalf("%s: %d texts of %d, %d of them synced", name, n, len(w.texts[i]), w.synced[i])
		}
		w.texts[i] = w.texts[i][:n]
		wantTexts(t, w.tapes[i], w.texts[i]...)
	}
}

func (w *walker) append(t *testing.T, i int) {
	t.Helper()
	s := strconv.Itoa(w.r.Int())[:w.r.Intn(12)]
	e := w.tapes[i].Append(s)
	if e == api.OK {
		w.texts[i] = append(w.texts[i], s)
	}
	if e != api.OK && e != api.ErrDown {
		t.Fatal(e)
	}
	wantTexts(t, w.tapes[i], w.texts[i]...)
}

func (w *walker) sync(t *testing.T, i int) {
	t.Helper()
	e := w.tapes[i].Sync()
	if e != api.OK {
		want(t, e, api.ErrDown)
		return
	}
	for k := range w.texts {
		w.synced[k] = len(w.texts[k])
	}
}

// 4.3: walks of appends, syncs, fuses and crashes over three tapes of one disk.
func TestWalks(t *testing.T) {
	for seed := range int64(400) {
		w := &walker{r: rand.New(rand.NewSource(seed)), d: disk.New(), names: []string{"a", "b", "c"}, tapes: make([]*tape.Tape, 3), texts: make([][]string, 3), synced: make([]int, 3)}
		w.open(t)
		for range 80 {
			i := w.r.Intn(3)
			switch w.r.Intn(12) {
			case 0:
				w.sync(t, i)
			case 1:
				want(t, w.d.Fuse(w.r.Intn(6)), api.OK)
			case 2:
				w.d.Crash(w.r.Intn(8)-1, w.r.Intn(24)-1)
				w.open(t)
			default:
				w.append(t, i)
			}
		}
		w.d.Crash(w.r.Intn(8)-1, w.r.Intn(24)-1)
		w.open(t)
	}
}

// P1: no bytes of a file bring a panic; what is opened has frames alone in its file.
func TestOpenAnything(t *testing.T) {
	r := rand.New(rand.NewSource(1))
	likely := []string{"W", "F", "\x00", "\x00\x00\x00", "\x01", "\x02", "\xff", frameOf(""), frameOf("a"), frameOf("bc")}
	for range 50000 {
		b := ""
		for range r.Intn(6) {
			b += likely[r.Intn(len(likely))]
		}
		d := disk.New()
		want(t, d.Write("a", 0, b), api.OK)
		x, e := tape.Open(d, "a")
		if e != api.OK {
			if e != api.ErrCorrupt || x != nil {
				t.Fatalf("%x: a tape: %v, %d", b, x != nil, e)
			}
			wantFiles(t, d, "a", b)
			continue
		}
		var texts []string
		for i := range x.Len() {
			s, _ := x.Read(i)
			texts = append(texts, s)
		}
		wantFiles(t, d, "a", framesOf(texts...))
	}
}
