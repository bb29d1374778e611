package event

import (
	"cmp"
	"slices"
	"strings"

	"weaver/api"
	"weaver/pack"
)

func CheckMatch(m api.Match) api.Errno {
	if !isName(m.Key) || len(m.Stages) < 1 || len(m.Stages) > api.MaxStages {
		return api.ErrEvent
	}
	left, ahead := api.MaxWindow, -1
	for _, places := range m.Stages {
		if len(places) < 1 || len(places) > left || !rise(ahead, places) {
			return api.ErrEvent
		}
		left -= len(places)
		ahead = places[len(places)-1]
	}
	return api.OK
}

// rise says whether places go up from above ahead to api.MaxSeq at most.
func rise(ahead int, places []int) bool {
	for _, p := range places {
		if p <= ahead || p > api.MaxSeq {
			return false
		}
		ahead = p
	}
	return true
}

func EncodeMatch(m api.Match) (string, api.Errno) {
	if c := CheckMatch(m); c != api.OK {
		return "", c
	}
	l := []api.Item{textItem(m.Key), numberItem(len(m.Stages))}
	for _, places := range m.Stages {
		l = append(l, numberItem(len(places)))
		for _, p := range places {
			l = append(l, numberItem(p))
		}
	}
	return pack.Encode(l)
}

func numberItem(n int) api.Item {
	return api.Item{N: int64(n)}
}

func DecodeMatch(b string) (api.Match, api.Errno) {
	l, c := itemsOf(b)
	if c != api.OK {
		return api.Match{}, c
	}
	m, ok := matchOf(l)
	if !ok || CheckMatch(m) != api.OK {
		return api.Match{}, api.ErrEvent
	}
	return m, api.OK
}

// matchOf says false, if l is not of a match's form.
func matchOf(l []api.Item) (api.Match, bool) {
	if len(l) < 2 || !l[0].Text {
		return api.Match{}, false
	}
	stages, ok := numberUpTo(l[1], api.MaxStages)
	if !ok {
		return api.Match{}, false
	}
	m := api.Match{Key: l[0].S}
	rest := l[2:]
	for range stages {
		var places []int
		places, rest, ok = readStage(rest)
		if !ok {
			return api.Match{}, false
		}
		m.Stages = append(m.Stages, places)
	}
	return m, len(rest) == 0
}

// readStage takes a stage from the front of l: how many places, and they.
func readStage(l []api.Item) (places []int, rest []api.Item, ok bool) {
	if len(l) == 0 {
		return nil, nil, false
	}
	n, ok := numberUpTo(l[0], len(l)-1)
	if !ok {
		return nil, nil, false
	}
	for _, x := range l[1 : 1+n] {
		p, ok := numberUpTo(x, api.MaxSeq)
		if !ok {
			return nil, nil, false
		}
		places = append(places, p)
	}
	return places, l[1+n:], true
}

// numberUpTo is asked ahead of the conversion, so that no number is cut where an int is short.
func numberUpTo(x api.Item, most int) (int, bool) {
	if x.Text || x.N < 0 || x.N > int64(most) {
		return 0, false
	}
	return int(x.N), true
}

func Compare(a, b api.Match) (int, api.Errno) {
	if c := CheckMatch(a); c != api.OK {
		return 0, c
	}
	if c := CheckMatch(b); c != api.OK {
		return 0, c
	}
	return cmp.Or(
		cmp.Compare(lastPlace(a), lastPlace(b)),
		slices.CompareFunc(a.Stages, b.Stages, slices.Compare[[]int]),
		strings.Compare(a.Key, b.Key),
	), api.OK
}

// lastPlace is asked of matches that may be: they have a last stage with a last place.
func lastPlace(m api.Match) int {
	places := m.Stages[len(m.Stages)-1]
	return places[len(places)-1]
}
