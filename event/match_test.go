package event_test

import (
	"math"
	"math/rand"
	"reflect"
	"slices"
	"strings"
	"testing"

	"weaver/api"
	"weaver/event"
)

func match(key string, stages ...[]int) api.Match { return api.Match{Key: key, Stages: stages} }

// upFrom is n places from first on.
func upFrom(first, n int) []int {
	l := make([]int, n)
	for i := range l {
		l[i] = first + i
	}
	return l
}

// matchItems is a match's list by the chapter's words.
func matchItems(m api.Match) []api.Item {
	l := []api.Item{text(m.Key), number(int64(len(m.Stages)))}
	for _, places := range m.Stages {
		l = append(l, number(int64(len(places))))
		for _, p := range places {
			l = append(l, number(int64(p)))
		}
	}
	return l
}

func wantMatch(t *testing.T, m api.Match, ok bool) {
	t.Helper()
	want := api.ErrEvent
	if ok {
		want = api.OK
	}
	if c := event.CheckMatch(m); c != want {
		t.Errorf("CheckMatch(%v) = %d, want %d", m, c, want)
	}
	s, c := event.EncodeMatch(m)
	if c != want || !ok && s != "" {
		t.Errorf("EncodeMatch(%v) = %x, %d, want %d", m, s, c, want)
	}
	b := bytesOf(t, matchItems(m)...)
	if ok && s != b {
		t.Errorf("EncodeMatch(%v) = %x, want %x", m, s, b)
	}
	x, c := event.DecodeMatch(b)
	if c != want || ok && !reflect.DeepEqual(x, m) || !ok && (x.Key != "" || len(x.Stages) != 0) {
		t.Errorf("DecodeMatch of %v = %v, %d, want %d", m, x, c, want)
	}
	good := match("k", []int{0})
	if n, c := event.Compare(m, good); c != want || !ok && n != 0 {
		t.Errorf("Compare(%v, %v) = %d, %d, want %d", m, good, n, c, want)
	}
	if n, c := event.Compare(good, m); c != want || !ok && n != 0 {
		t.Errorf("Compare(%v, %v) = %d, %d, want %d", good, m, n, c, want)
	}
}

// 2.2: keys and stages at their edges.
func TestMatchKeysAndStages(t *testing.T) {
	for _, n := range someNames() {
		wantMatch(t, match(n.s, []int{3}), n.ok)
	}
	var stages [][]int
	for i := range 2*api.MaxStages + 1 {
		wantMatch(t, match("k", stages...), 1 <= i && i <= api.MaxStages)
		stages = append(stages, []int{i})
	}
	wantMatch(t, match("k", nil), false)
	wantMatch(t, match("k", []int{}), false)
	wantMatch(t, match("k", nil, []int{0}), false)
	wantMatch(t, match("k", []int{0}, nil), false)
	wantMatch(t, match("k", []int{0}, []int{}, []int{1}), false)
	wantMatch(t, api.Match{}, false)
}

// 2.2: places that rise, within a stage and from one to the next, from 0 to api.MaxSeq.
func TestMatchPlaces(t *testing.T) {
	good := []api.Match{
		match("k", []int{0}), match("k", []int{0, 1}), match("k", []int{0}, []int{1}), match("k", []int{7, 9}, []int{10, 400}),
		match("k", []int{api.MaxSeq}), match("k", []int{0, api.MaxSeq}), match("k", []int{api.MaxSeq - 1}, []int{api.MaxSeq}),
	}
	bad := []api.Match{
		match("k", []int{0, 0}), match("k", []int{1, 0}), match("k", []int{0}, []int{0}), match("k", []int{1}, []int{0}),
		match("k", []int{0, 2}, []int{1}), match("k", []int{0, 2}, []int{2}), match("k", []int{0, 1, 1}), match("k", []int{0}, []int{3, 2}), match("k", []int{5}, []int{6}, []int{6}),
		match("k", []int{-1}), match("k", []int{-1, 0}), match("k", []int{-2, -1}), match("k", []int{0, -1}), match("k", []int{math.MinInt}),
		match("k", []int{api.MaxSeq + 1}), match("k", []int{0}, []int{api.MaxSeq + 1}), match("k", []int{0, api.MaxSeq + 1}), match("k", []int{math.MaxInt}),
	}
	for _, m := range good {
		wantMatch(t, m, true)
	}
	for _, m := range bad {
		wantMatch(t, m, false)
	}
}

// 2.2: api.MaxWindow places together, and one more.
func TestMatchWindow(t *testing.T) {
	most := api.MaxWindow
	wantMatch(t, match("k", upFrom(0, most)), true)
	wantMatch(t, match("k", upFrom(0, most+1)), false)
	wantMatch(t, match("k", upFrom(0, most-1), []int{most}), true)
	wantMatch(t, match("k", upFrom(0, most), []int{most}), false)
	wantMatch(t, match("k", []int{0}, upFrom(1, most-1)), true)
	wantMatch(t, match("k", []int{0}, upFrom(1, most)), false)
	wantMatch(t, match("k", upFrom(0, 200), upFrom(200, 200)), false)
	wantMatch(t, match("k", upFrom(0, 3000)), false)
	var stages [][]int
	for i := range api.MaxStages {
		stages = append(stages, upFrom(i*1000+api.MaxSeq/2, most/api.MaxStages))
	}
	wantMatch(t, match(strings.Repeat("q", api.MaxName), stages...), true)
	stages[3] = upFrom(3*1000+api.MaxSeq/2, most/api.MaxStages+1)
	wantMatch(t, match("k", stages...), false)
}

// 2.2: the chapter's list as bytes, written out.
func TestMatchBytes(t *testing.T) {
	s, c := event.EncodeMatch(match("k", []int{0}, []int{1, 64}))
	if want := "\x02\x02k\x01\x04\x01\x02\x01\x00\x01\x04\x01\x02\x01\x81\x00"; s != want || c != api.OK {
		t.Errorf("%x, %d", s, c)
	}
}

func wantNoMatch(t *testing.T, b string, want api.Errno) {
	t.Helper()
	if m, c := event.DecodeMatch(b); c != want || m.Key != "" || len(m.Stages) != 0 {
		t.Errorf("DecodeMatch of %d bytes (%.40x) = %v, %d, want %d", len(b), b, m, c, want)
	}
}

// 2.2: lists with an item too few or too many, a text for a number, or counts that are wrong.
func TestDecodeNoMatch(t *testing.T) {
	l := matchItems(match("k", []int{0}, []int{5, 6}, []int{9}))
	whole := bytesOf(t, l...)
	for i := range l {
		wantNoMatch(t, bytesOf(t, l[:i]...), api.ErrEvent)
		other := slices.Clone(l)
		for _, x := range []api.Item{number(-1), number(math.MinInt64), number(math.MaxInt64), number(1 << 32), number(1<<32 + 1), number(api.MaxSeq + 1), text(""), text("0"), text("\x01")} {
			other[i] = x
			if i > 0 || !x.Text {
				wantNoMatch(t, bytesOf(t, other...), api.ErrEvent)
			}
		}
		if i > 0 && i != len(l)-1 {
			other[i] = number(l[i].N + 1<<32)
			wantNoMatch(t, bytesOf(t, other...), api.ErrEvent)
		}
	}
	for _, x := range []api.Item{number(0), number(1), number(5), text(""), text("k")} {
		wantNoMatch(t, bytesOf(t, append(l[:len(l):len(l)], x)...), api.ErrEvent)
		wantNoMatch(t, bytesOf(t, append([]api.Item{x}, l...)...), api.ErrEvent)
	}
	for _, i := range []int{1, 2, 4, 7} { // the counts
		for _, d := range []int64{-2, -1, 1, 2} {
			other := slices.Clone(l)
			other[i].N += d
			wantNoMatch(t, bytesOf(t, other...), api.ErrEvent)
		}
	}
	for _, n := range []api.Item{number(-1), number(0), number(2), number(9), text(""), text("1")} { // around one stage
		wantNoMatch(t, bytesOf(t, text("k"), n, number(1), number(5)), api.ErrEvent)
		wantNoMatch(t, bytesOf(t, text("k"), number(1), n, number(5)), api.ErrEvent)
	}
	for i := range whole {
		wantNoMatch(t, whole[:i], api.ErrEvent)
	}
	for _, b := range []string{"\x00", "\x03", whole + "\x00", whole + "\x01", "\x00" + whole, whole + whole} {
		wantNoMatch(t, b, api.ErrEvent)
	}
}

func TestDecodeMatchLimits(t *testing.T) {
	wantNoMatch(t, strings.Repeat("\x00", api.MaxBytes), api.ErrEvent)
	wantNoMatch(t, strings.Repeat("\x00", api.MaxBytes+1), api.ErrLong)
	wantNoMatch(t, strings.Repeat("\x01\x00", api.MaxItems+1), api.ErrEvent)
	wantNoMatch(t, "\x02\x02k\x01\x02\x01\x02"+strings.Repeat("\x01\x00", api.MaxItems-3), api.ErrEvent)
	whole := bytesOf(t, matchItems(match("k", []int{0}))...)
	wantNoMatch(t, whole+strings.Repeat("\x00", api.MaxBytes-len(whole)), api.ErrEvent)
	wantNoMatch(t, whole+strings.Repeat("\x00", api.MaxBytes-len(whole)+1), api.ErrLong)
}

// 2.2: the order of matches, each of the list ahead of all that follow it.
func TestCompareOrder(t *testing.T) {
	l := []api.Match{
		match("z", []int{0}),
		match("a", []int{1}), // the last place counts ahead of the key
		match("b", []int{1}),
		match("k", []int{0}, []int{1}, []int{3}), // the stage of the first ends where that of the next goes on
		match("k", []int{0}, []int{1, 2}, []int{3}),
		match("k", []int{0}, []int{1, 2, 3}),
		match("k", []int{0}, []int{1, 3}),
		match("k", []int{0}, []int{2}, []int{3}),
		match("k", []int{0}, []int{2, 3}),
		match("l", []int{0}, []int{2, 3}),
		match("k", []int{0}, []int{3}),
		match("k", []int{0, 1}, []int{3}),
		match("k", []int{0, 1, 2, 3}),
		match("k", []int{1}, []int{3}),
		match("k", []int{3}),
		match("k0", []int{3}), // one key is the other's beginning
		match("ka", []int{3}),
		match("l", []int{3}),
		match("k", []int{0}, []int{4}),
		match("k", []int{0}, []int{api.MaxSeq}),
	}
	for i := range l {
		for k := range l {
			want := 0
			if i < k {
				want = -1
			} else if i > k {
				want = 1
			}
			if c, e := event.Compare(l[i], l[k]); c != want || e != api.OK {
				t.Errorf("Compare(%v, %v) = %d, %d, want %d", l[i], l[k], c, e, want)
			}
		}
	}
}

// 2.2, R1: what is wrong is told of a, then of b; both are refused in the same way.
func TestCompareRefuses(t *testing.T) {
	good, bad := match("k", []int{3}), match("k", []int{3, 3})
	for _, p := range [][2]api.Match{{bad, good}, {good, bad}, {bad, bad}, {{}, good}, {good, {}}} {
		if c, e := event.Compare(p[0], p[1]); c != 0 || e != api.ErrEvent {
			t.Error(p, c, e)
		}
	}
}

// someMatches are all matches of two keys with places below 5 and at most 3 stages.
func someMatches() []api.Match {
	var l []api.Match
	for set := 1; set < 32; set++ {
		var places []int
		for p := range 5 {
			if set>>p&1 == 1 {
				places = append(places, p)
			}
		}
		for i := 1; i <= len(places); i++ {
			for k := i; k <= len(places); k++ {
				var stages [][]int
				for _, s := range [][]int{places[:i], places[i:k], places[k:]} {
					if len(s) > 0 {
						stages = append(stages, s)
					}
				}
				if i == k && k < len(places) {
					continue // the same two stages as with i and len(places)
				}
				l = append(l, match("k", stages...), match("ka", stages...))
			}
		}
	}
	return l
}

// 2.3: the order is one, and just the same matches are the same.
func TestOrderIsOne(t *testing.T) {
	l := someMatches()
	c := make([][]int, len(l))
	for i := range l {
		for k := range l {
			n, e := event.Compare(l[i], l[k])
			if e != api.OK || (n == 0) != reflect.DeepEqual(l[i], l[k]) {
				t.Fatal(l[i], l[k], n, e)
			}
			c[i] = append(c[i], n)
		}
	}
	for i := range l {
		for k := range l {
			if c[i][k] != -c[k][i] {
				t.Fatal(l[i], l[k])
			}
			for m := range l {
				if c[i][k] < 0 && c[k][m] < 0 && c[i][m] != -1 {
					t.Fatal(l[i], l[k], l[m])
				}
			}
		}
	}
}

// 2.3: whatever bytes are handed in, they are one match's, or none's.
func TestBytesAreOneMatch(t *testing.T) {
	r := rand.New(rand.NewSource(3))
	whole, _ := event.EncodeMatch(match("key", []int{0, 5}, []int{70}, []int{100, 1000, 100000}))
	found := 0
	for range 20000 {
		b := []byte(whole)
		for range 1 + r.Intn(2) {
			b[r.Intn(len(b))] = byte(r.Intn(256))
		}
		m, c := event.DecodeMatch(string(b))
		if c == api.ErrEvent && m.Key == "" && len(m.Stages) == 0 {
			continue
		}
		found++
		if s, again := event.EncodeMatch(m); c != api.OK || again != api.OK || s != string(b) {
			t.Fatalf("%x is %v, %d; its bytes are %x, %d", b, m, c, s, again)
		}
	}
	if found == 0 {
		t.Error("no match was met")
	}
}

// R4: arguments are left as they are, spare room too; no two lists of an answer share any.
func TestMatchesShareNothing(t *testing.T) {
	room := []int{0, 1, 2, 3, -7}
	stages := [][]int{room[:2], room[2:4], {-9}}
	m := match("key", stages[:2]...)
	s, e := event.EncodeMatch(m)
	event.CheckMatch(m)
	event.Compare(m, m)
	if e != api.OK || !slices.Equal(room, []int{0, 1, 2, 3, -7}) || stages[2][0] != -9 {
		t.Fatal(e, room, stages)
	}
	x, _ := event.DecodeMatch(s)
	y, _ := event.DecodeMatch(s)
	for i := range x.Stages {
		spare := x.Stages[i][len(x.Stages[i]):cap(x.Stages[i])]
		for k := range spare {
			spare[k] = -5
		}
		x.Stages[i][0] = -3
	}
	if !reflect.DeepEqual(y, m) || x.Stages[0][1] != 1 || x.Stages[1][1] != 3 {
		t.Error(x, y)
	}
	if meets(x.Key, s) || meets(x.Key, y.Key) {
		t.Error("keys share memory")
	}
}
