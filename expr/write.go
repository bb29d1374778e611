package expr

import (
	"strconv"

	"weaver/api"
)

// written is an expression as a text, and whether it needs brackets as another one's side.
type written struct {
	s    string
	open bool
}

func (w written) side() string {
	if w.open {
		return "( " + w.s + " )"
	}
	return w.s
}

func writtenOf(p api.Part, op operation, sides [2]written) written {
	switch op.sides {
	case 0:
		return written{s: writtenLeaf(p)}
	case 1:
		return written{s: op.sign + " " + sides[0].side(), open: true}
	}
	return written{s: sides[0].side() + " " + op.sign + " " + sides[1].side(), open: true}
}

func writtenLeaf(p api.Part) string {
	switch {
	case p.Kind == api.ENum:
		return strconv.FormatInt(p.N, 10)
	case p.Kind == api.EText:
		return "'" + p.S + "'"
	case p.Stage == "":
		return fields[p.Field]
	}
	return p.Stage + " . " + fields[p.Field]
}
