package keyed_test

import (
	"math"
	"math/rand"
	"slices"
	"strings"
	"testing"

	"weaver/api"
	"weaver/event"
	"weaver/keyed"
	"weaver/pack"
	"weaver/run"
)

const goodPattern = "start a: type == 'x'; any b+: type == 'y'; then c: type == 'z'; within 6"

// goodRun is that of a key that has partial matches.
func goodRun(t *testing.T, key string) string {
	t.Helper()
	r, _ := run.New(read(goodPattern), key)
	for _, x := range typed(key, "xxyy") {
		r.Feed(x)
	}
	b, e := r.Save()
	if e != api.OK {
		t.Fatal(e)
	}
	return b
}

// part is what a state of four groups could have told of these keys, which rise.
func part(t *testing.T, keys ...string) string {
	t.Helper()
	return bytesOf(t, partItems(t, keys...)...)
}

func partItems(t *testing.T, keys ...string) []api.Item {
	t.Helper()
	l := []api.Item{number(4), number(len(keys))}
	for _, key := range keys {
		l = append(l, text(goodRun(t, key)))
	}
	return l
}

func wantNotLoaded(t *testing.T, p api.Pattern, groups int, want api.Errno, parts ...string) {
	t.Helper()
	if s, e := keyed.Load(p, groups, parts); s != nil || e != want {
		t.Errorf("%.200q: %v, %d, want %d", parts, s, e, want)
	}
}

// wantRefused is of bytes that are no part, wherever they stand among parts that are right.
func wantRefused(t *testing.T, b string) {
	t.Helper()
	p := read(goodPattern)
	for _, parts := range [][]string{
		{b},
		{b, part(t, "e")},
		{part(t, "e"), b},
		{part(t), part(t, "0"), b, part(t, "e", "f"), part(t)},
	} {
		wantNotLoaded(t, p, 4, api.ErrState, parts...)
	}
}

// 17.4: what is wrong is found, each thing by itself.
func TestLoadRefuses(t *testing.T) {
	l := partItems(t, "a", "b", "c")
	loaded(t, read(goodPattern), 4, bytesOf(t, l...), part(t, "e"))
	other := []api.Item{
		number(math.MinInt64), number(-1), number(0), number(1), number(math.MaxInt64), number(1<<32 + 4), number(1<<32 + 3),
		text(""), text("\x01\x08"), text("\x03"), text(bytesOf(t, text("K"), number(0), number(0))), text(goodRun(t, "b") + "\x01\x00"),
	}
	for i := range l {
		for _, x := range other {
			changed := slices.Clone(l)
			changed[i] = x
			wantRefused(t, bytesOf(t, changed...))
		}
		wantRefused(t, bytesOf(t, l[:i]...))
		wantRefused(t, bytesOf(t, slices.Delete(slices.Clone(l), i, i+1)...))
		wantRefused(t, bytesOf(t, slices.Insert(slices.Clone(l), i, l[i])...))
	}
	wantRefused(t, bytesOf(t, append(slices.Clone(l), number(0))...))
	wantRefused(t, bytesOf(t, append(slices.Clone(l), text(""))...))
	wantRefused(t, bytesOf(t, append(slices.Clone(l), text(goodRun(t, "d")))...))
	wantRefused(t, bytesOf(t, append(slices.Clone(l), l...)...))
}

// 17.4: keys that do not rise by bytes, or are twice in one part, with the same run or with another one.
func TestLoadOrder(t *testing.T) {
	for _, keys := range [][]string{
		{"b", "a"}, {"a", "a"}, {"a", "c", "b"}, {"b", "c", "a"}, {"a", "b", "b"}, {"a", "b", "a"}, {"a", "9"}, {"aa", "a"}, {"b", "ab"},
	} {
		wantRefused(t, part(t, keys...))
	}
	l := partItems(t, "a", "b")
	wantRefused(t, bytesOf(t, number(4), number(2), l[2], text(bytesOf(t, text("a"), number(7), number(0)))))
	for _, keys := range [][]string{{"9", "a"}, {"a", "aa"}, {"ab", "b"}, {"0", "1", "10", "2"}} {
		if s := loaded(t, read(goodPattern), 4, part(t, keys...)); !slices.Equal(s.Keys(), keys) {
			t.Error(s.Keys())
		}
	}
}

// 17.4: bytes that are no list, and more bytes, or items, than a list has: Save tells none of them.
func TestLoadBytes(t *testing.T) {
	b := part(t, "a", "b")
	for i := range len(b) {
		wantRefused(t, b[:i])
	}
	for _, s := range []string{
		"x", "\x00", b + "\x00", b + "\x01", b + "\x02\x02", "\x03" + b, b + b,
		strings.Repeat("\x01\x00", api.MaxItems+1),
		"\x01\x08\x01\x00" + strings.Repeat("\x00", api.MaxBytes),
		strings.Repeat("x", api.MaxBytes+1),
	} {
		wantRefused(t, s)
	}
	fill := strings.Repeat("t", api.MaxBytes-12)
	wantRefused(t, bytesOf(t, number(4), number(1), text(fill)))
}

// 17.4: a run of another pattern, or whose events do not meet it: as chapter 15's Load sees it.
func TestLoadOtherPattern(t *testing.T) {
	b := part(t, "a")
	for _, p := range []api.Pattern{
		read("start a: type == 'x'; any b: type == 'y'; then c: type == 'z'; within 6"),
		read("start a: type == 'x'; any b+: type == 'y'; then c: type == 'z'; within 4"),
		read("start a: type == 'x'; any b+: type == 'w'; then c: type == 'z'; within 6"),
		read("start a: type == 'x'; within 6"),
	} {
		if _, e := run.Load(p, goodRun(t, "a")); e != api.ErrState {
			t.Fatal(e)
		}
		wantNotLoaded(t, p, 4, api.ErrState, b)
	}
	loaded(t, read("start a: type == 'x'; any b+: type == 'y'; any c: type == 'z'; within 7"), 4, b)
}

// 17.4: the number of groups is another one, though the keys' groups could be the same.
func TestLoadOtherGroups(t *testing.T) {
	p := read(goodPattern)
	for groups := 1; groups <= api.MaxGroups; groups++ {
		for _, b := range []string{part(t), part(t, "a")} {
			if groups == 4 {
				loaded(t, p, groups, b)
			} else {
				wantNotLoaded(t, p, groups, api.ErrState, b)
			}
		}
	}
}

// 17.4, R1, R5: a pattern that may not be ahead of groups that may not be, ahead of all parts.
func TestLoadRefusesAhead(t *testing.T) {
	long := strings.Repeat("x", api.MaxBytes+1)
	for _, b := range []string{part(t, "a"), "", "x", long} {
		for _, groups := range wrongGroups() {
			for _, p := range wrongPatterns() {
				wantNotLoaded(t, p, 4, api.ErrPattern, b)
				wantNotLoaded(t, p, groups, api.ErrPattern, b)
				wantNotLoaded(t, p, groups, api.ErrPattern)
			}
			wantNotLoaded(t, read(goodPattern), groups, api.ErrRange, b)
			wantNotLoaded(t, read(goodPattern), groups, api.ErrRange)
		}
	}
}

// 17.4: a key in two parts, which stand side by side, or not; each key is asked, not the first alone.
func TestLoadTwice(t *testing.T) {
	p := read(goodPattern)
	for _, parts := range [][]string{
		{part(t, "a"), part(t, "a")},
		{part(t, "a", "b"), part(t, "b", "c")},
		{part(t, "c", "d"), part(t, "a", "b", "d")},
		{part(t, "a"), part(t, "b"), part(t, "c"), part(t, "a")},
		{part(t, "a"), part(t), part(t, "0", "a", "b")},
	} {
		wantNotLoaded(t, p, 4, api.ErrState, parts...)
	}
	wantNotLoaded(t, p, 4, api.ErrState, part(t, "a"), bytesOf(t, number(4), number(1), text(bytesOf(t, text("a"), number(9), number(0)))))
	s := loaded(t, p, 4, part(t, "a", "d"), part(t, "b", "c"), part(t, "0"), part(t), part(t))
	if l := s.Keys(); !slices.Equal(l, []string{"0", "a", "b", "c", "d"}) {
		t.Error(l)
	}
}

// 17.4: no part, or parts without keys, are a state without keys, which can be fed.
func TestLoadNothing(t *testing.T) {
	p := read(goodPattern)
	for _, parts := range [][]string{nil, {}, {part(t)}, {part(t), part(t), part(t)}} {
		s, e := keyed.Load(p, 4, parts)
		if e != api.OK || len(s.Keys()) != 0 || s.Live() != 0 || saved(t, s, 0, 4) != part(t) {
			t.Error(e)
		}
		if fed(t, s, "k", "xxyy"); saved(t, s, 0, 4) != part(t, "k") {
			t.Error("fed otherwise")
		}
	}
}

// 17.4: as many keys as may be, and one more, in one part and in many.
func TestLoadKeys(t *testing.T) {
	p := read(goodPattern)
	all := names(keysAtMost + 1)
	slices.Sort(all)
	for _, size := range []int{1, 100, keysAtMost, keysAtMost + 1} {
		for _, many := range []int{keysAtMost, keysAtMost + 1} {
			var parts []string
			for l := range slices.Chunk(all[:many], size) {
				parts = append(parts, part(t, l...))
			}
			if many > keysAtMost {
				wantNotLoaded(t, p, 4, api.ErrState, parts...)
			} else if s := loaded(t, p, 4, parts...); !slices.Equal(s.Keys(), all[:many]) {
				t.Error(len(s.Keys()))
			}
		}
	}
}

// 17.4: what chapter 15's Load sees is all that is asked of a run: one that has seen nothing may be.
func TestLoadFreshRun(t *testing.T) {
	b := bytesOf(t, number(4), number(1), text(bytesOf(t, text("k"), number(0), number(0))))
	s := loaded(t, read(goodPattern), 4, b)
	if !slices.Equal(s.Keys(), []string{"k"}) || saved(t, s, 0, 4) != b {
		t.Error(s.Keys())
	}
	if fed(t, s, "k", "xxyy"); saved(t, s, 0, 4) != part(t, "k") {
		t.Error("fed otherwise")
	}
}

// couldBeSaved asks the chapter's list, one by one.
func couldBeSaved(p api.Pattern, groups int, parts []string) bool {
	var all []string
	for _, b := range parts {
		l, f := pack.Decode(b)
		if f != (api.Fault{}) || len(l) < 2 || l[0] != number(groups) || l[1] != number(len(l)-2) {
			return false
		}
		var keys []string
		for _, x := range l[2:] {
			if _, e := run.Load(p, x.S); e != api.OK || !x.Text {
				return false
			}
			inner, _ := pack.Decode(x.S)
			keys = append(keys, inner[0].S)
		}
		if !slices.IsSorted(keys) {
			return false
		}
		all = append(all, keys...)
	}
	slices.Sort(all)
	return len(all) <= keysAtMost && len(slices.Compact(slices.Clone(all))) == len(all)
}

// spoiltBytes changes, takes out or puts in some bytes.
func spoiltBytes(r *rand.Rand, b string) string {
	out := []byte(b)
	for range 1 + r.Intn(2) {
		at := r.Intn(len(out))
		switch r.Intn(4) {
		case 0:
			out[at] = byte(r.Intn(256))
		case 1:
			out[at] += byte(1 + r.Intn(2)*254)
		case 2:
			out = slices.Delete(out, at, min(len(out)-1, at+1+r.Intn(3)))
		default:
			out = slices.Insert(out, at, byte(r.Intn(4)))
		}
	}
	return string(out)
}

// 17.4, P1: parts in which bytes are others are refused, or tell a state that has just them.
func TestLoadSpoilt(t *testing.T) {
	r := rand.New(rand.NewSource(4))
	p := read(goodPattern)
	first, second := part(t, "a", "c"), part(t, "b")
	right := 0
	for range 10000 {
		parts := []string{first, second}
		i := r.Intn(2)
		parts[i] = spoiltBytes(r, parts[i])
		s, e := keyed.Load(p, 4, parts)
		if !couldBeSaved(p, 4, parts) {
			if s != nil || e != api.ErrState {
				t.Fatalf("%q: %d", parts, e)
			}
			continue
		}
		if e != api.OK {
			t.Fatalf("%q: %d", parts, e)
		}
		right++
		wantRuns(t, s, parts)
	}
	if right < 100 {
		t.Error(right)
	}
}

// wantRuns is of a state that was loaded from the parts: it has their runs, each by its key.
func wantRuns(t *testing.T, s *keyed.State, parts []string) {
	t.Helper()
	runs := map[string]api.Item{}
	for _, b := range parts {
		l, _ := pack.Decode(b)
		for _, x := range l[2:] {
			inner, _ := pack.Decode(x.S)
			runs[inner[0].S] = x
		}
	}
	l := []api.Item{number(4), number(len(runs))}
	for _, key := range s.Keys() {
		l = append(l, runs[key])
	}
	if b := saved(t, s, 0, 4); b != bytesOf(t, l...) {
		t.Fatalf("%q: saved as %q", parts, b)
	}
	for _, key := range s.Keys() {
		if _, e := s.Feed(api.Event{Key: key, Type: "z"}); e != api.OK && e != api.ErrLong || event.Check(api.Event{Key: key, Type: "z"}) != api.OK {
			t.Fatal(key, e)
		}
	}
}
