package run_test

import (
	"math"
	"strings"
	"testing"

	"weaver/api"
	"weaver/event"
	"weaver/pack"
	"weaver/run"
)

func loaded(t *testing.T, p api.Pattern, b string) *run.Run {
	t.Helper()
	r, e := run.Load(p, b)
	if e != api.OK {
		t.Fatal(e)
	}
	return r
}

// 15.3: the bytes, one by one: behind each event, of a run of two partial matches in the end.
func TestBytes(t *testing.T) {
	r := begun(t, read("start a+: type == 'x'; any b: type == 'y'; any c: type == 'z'; within 9"))
	const (
		x = "\x02\x24" + "\x02\x02k\x02\x02x\x01\x02\x01\x00\x01\x01\x01\x00\x02\x04ab" // 18 bytes
		y = "\x02\x20" + "\x02\x02k\x02\x02y\x01\x00\x01\x00\x01\x00\x01\x00\x02\x00"   // 16 bytes
	)
	for _, step := range []struct {
		feed api.Event
		want string
	}{
		{api.Event{}, "\x02\x02k" + "\x01\x00" + "\x01\x00"},
		{api.Event{Key: "k", Type: "x", N: [4]int64{1, 0, -1}, Text: "ab"},
			"\x02\x02k" + "\x01\x02" + "\x01\x02" + "\x01\x02" + "\x01\x02\x01\x00" + x + "\x01\x02\x01\x02"},
		{api.Event{Key: "k", Type: "w"},
			"\x02\x02k" + "\x01\x04" + "\x01\x02" + "\x01\x02" + "\x01\x02\x01\x00" + x + "\x01\x00\x01\x02"},
		{api.Event{Key: "k", Type: "y"},
			"\x02\x02k" + "\x01\x06" + "\x01\x04" + "\x01\x02" + "\x01\x02\x01\x00" + x + "\x01\x00\x01\x02" +
				"\x01\x04" + "\x01\x02\x01\x00" + x + "\x01\x02\x01\x04" + y + "\x01\x00\x01\x02"},
	} {
		if step.feed.Key != "" {
			r.Feed(step.feed)
		}
		if got := saved(t, r); got != step.want {
			t.Errorf("%q, want %q", got, step.want)
		}
	}
}

// sizes are how many items and bytes the run's list has, reckoned from its partial matches.
func sizes(r *run.Run, events []api.Event) (items, bytes int) {
	l := [][]api.Item{{text("k"), number(r.Seen()), number(r.Live())}}
	for _, stages := range r.Partials() {
		x := []api.Item{number(len(stages)), number(0), number(0)}
		for _, places := range stages {
			x = append(x, number(len(places)))
			for _, place := range places {
				x = append(x, number(place))
			}
			b, _ := event.Encode(events[places[len(places)-1]])
			x = append(x, text(b))
		}
		l = append(l, x)
	}
	for _, x := range l {
		b, _ := pack.Encode(x)
		items, bytes = items+len(x), bytes+len(b)
	}
	return items, bytes
}

// 15.3: a list of as many items as may be, and of one more. A run of m events of the first stage has as
// many partial matches as it has stretches.
func TestSaveItems(t *testing.T) {
	p := read("start a+: type == 'x'; any b: type == 'y'; within 256")
	for _, x := range []struct {
		stretches []int
		items     int
		want      api.Errno
	}{
		{[]int{22, 12, 2, 2, 1, 1}, api.MaxItems, api.OK},
		{[]int{23, 9, 1, 1, 1, 1}, api.MaxItems + 1, api.ErrLong},
	} {
		s := ""
		for _, m := range x.stretches {
			s += strings.Repeat("x", m) + "w"
		}
		events := typed(s)
		r := fed(t, p, events)
		items, _ := sizes(r, events)
		b, e := r.Save()
		if items != x.items || e != x.want || (e == api.OK) != (b != "") {
			t.Error(items, len(b), e)
		}
		if e == api.OK && !sameLists(loaded(t, p, b).Partials(), r.Partials()) {
			t.Error("loaded as another one")
		}
	}
}

// 15.3: as many bytes as may be, and more, of lists that have not too many items.
func TestSaveBytes(t *testing.T) {
	p := read("start a: type == 'x'; any b: type == 'y'; any c: type == 'z'; within 256")
	events := typed(strings.Repeat("x", 62) + "yyyyyy" + strings.Repeat("x", 15))
	for i := range events {
		events[i].N = [4]int64{math.MinInt64, math.MinInt64, math.MinInt64, math.MinInt64}
		events[i].Text = strings.Repeat("t", api.MaxText)
	}
	last := &events[len(events)-1]
	last.N = [4]int64{}
	ahead := saved(t, fed(t, p, events[:len(events)-1]))
	seen := map[int]bool{}
	for n := range 64 {
		last.Text = strings.Repeat("t", n)
		r := loaded(t, p, ahead)
		r.Feed(*last)
		seen[wantSaved(t, r, events)] = true
	}
	if !seen[api.MaxBytes] || !seen[api.MaxBytes+1] {
		t.Error("the edge was not come to")
	}
}

func wantSaved(t *testing.T, r *run.Run, events []api.Event) (bytes int) {
	t.Helper()
	items, bytes := sizes(r, events)
	length, want := bytes, api.OK
	if bytes > api.MaxBytes {
		length, want = 0, api.ErrLong
	}
	if b, e := r.Save(); len(b) != length || e != want || items > api.MaxItems {
		t.Fatal(items, bytes, len(b), e)
	}
	return bytes
}

// 15.3, R5: a run that could not be saved goes on as if it had not been asked.
func TestSaveRefusedChangesNothing(t *testing.T) {
	p := read("start a: type == 'x'; any b+: type == 'y'; any c: type == 'z'; within 256")
	events := typed("xyyyyyyyyyyz")
	asked, other := begun(t, p), begun(t, p)
	for i, x := range events {
		if _, e := asked.Save(); (e == api.ErrLong) != (i >= 10) {
			t.Error(i, e)
		}
		a, _ := asked.Feed(x)
		b, _ := other.Feed(x)
		if !sameLists(stagesOf(a), stagesOf(b)) || !sameLists(asked.Partials(), other.Partials()) {
			t.Fatal(i)
		}
	}
}
