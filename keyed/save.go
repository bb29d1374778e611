package keyed

import (
	"weaver/api"
	"weaver/group"
	"weaver/pack"
)

func (s *State) Save(from, to int) (string, api.Errno) {
	if from < 0 || from > to || to > s.groups {
		return "", api.ErrRange
	}
	keys := s.keysIn(from, to)
	l := headItems(s.groups, len(keys))
	for _, key := range keys {
		b, e := s.runs[key].Save()
		if e != api.OK {
			return "", e
		}
		l = append(l, api.Item{Text: true, S: b})
	}
	return pack.Encode(l)
}

// keysIn are those whose groups are from the first one on, below the second.
func (s *State) keysIn(from, to int) []string {
	var out []string
	for _, key := range s.sortedKeys() {
		if g, _ := group.Of(key, s.groups); from <= g && g < to {
			out = append(out, key)
		}
	}
	return out
}

// headItems is what stands ahead of the runs.
func headItems(groups, keys int) []api.Item {
	return []api.Item{{N: int64(groups)}, {N: int64(keys)}}
}
