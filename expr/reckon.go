package expr

import (
	"slices"

	"weaver/api"
)

// value is a number, a text or a truth; what it is not is zero, so that values of one kind are the
// same just if they are the same whole.
type value struct {
	n int64
	s string
	t bool
}

// moment is what an expression is reckoned of: the event at hand, and the last events of stages.
type moment struct {
	event api.Event
	names []string
	last  []api.Event
}

func (m *moment) hasStages(x []api.Part) bool {
	for _, p := range x {
		if p.Stage != "" && !slices.Contains(m.names, p.Stage) {
			return false
		}
	}
	return true
}

func (m *moment) valueOf(p api.Part, op operation, sides [2]value) value {
	if op.sides > 0 {
		return op.value(sides[0], sides[1])
	}
	switch p.Kind {
	case api.ENum:
		return value{n: p.N}
	case api.EText:
		return value{s: p.S}
	}
	return m.fieldValue(p.Stage, p.Field)
}

func (m *moment) fieldValue(stage string, field int) value {
	e := &m.event
	if stage != "" {
		e = &m.last[slices.Index(m.names, stage)]
	}
	switch field {
	case api.FType:
		return value{s: e.Type}
	case api.FText:
		return value{s: e.Text}
	}
	return value{n: e.N[field]}
}
