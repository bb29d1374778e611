package source

import (
	"strings"

	"weaver/api"
)

func (s *Source) end(part int) int {
	return len(s.parts[part])
}

// isOffset takes the end, too: from there on nothing is read yet.
func (s *Source) isOffset(part, offset int) bool {
	return 0 <= offset && offset <= s.end(part)
}

// withKey looks at each event: a partition has the events of many keys.
func withKey(events []api.Event, key string) []api.Event {
	var found []api.Event
	for _, e := range events {
		if e.Key == key {
			found = append(found, e)
		}
	}
	return found
}

func clonesOf(events []api.Event) []api.Event {
	clones := make([]api.Event, len(events))
	for i, e := range events {
		clones[i] = cloneOf(e)
	}
	return clones
}

// cloneOf has texts of its own, so that nobody shares what a source keeps.
func cloneOf(e api.Event) api.Event {
	e.Key, e.Type, e.Text = strings.Clone(e.Key), strings.Clone(e.Type), strings.Clone(e.Text)
	return e
}
