package expr

import (
	"strings"

	"weaver/api"
)

const maxParts = 200

// shape is what Check asks of an expression: its kind, 0 if a part may not be, and how deep its
// parts go.
type shape struct {
	kind, deep int
}

func shapeOf(p api.Part, op operation, sides [2]shape) shape {
	if op.sides == 0 {
		return shape{kind: leafKind(p), deep: 1}
	}
	s := shape{deep: 1 + max(sides[0].deep, sides[1].deep)}
	if p == (api.Part{Kind: p.Kind}) && op.fits(sides[0].kind, sides[1].kind) {
		s.kind = op.is
	}
	return s
}

// leafKind is 0 of a leaf that may not be. It holds leaves whole against those that have only
// what their Kind has.
func leafKind(p api.Part) int {
	switch {
	case p == api.Part{Kind: api.ENum, N: p.N} && p.N >= 0:
		return number
	case p == api.Part{Kind: api.EText, S: p.S} && isText(p.S):
		return text
	case p == api.Part{Kind: api.EField, Stage: p.Stage, Field: p.Field} && (p.Stage == "" || isStage(p.Stage)):
		return fieldKind(p.Field)
	}
	return 0
}

func fieldKind(field int) int {
	switch {
	case field == api.FType, field == api.FText:
		return text
	case 0 <= field && field < api.FType:
		return number
	}
	return 0
}

// isText and isStage say again what layer 10 reads as a text and as a word: they are asked of each
// leaf for each event, and to have layer 10 write the leaf would make new memory every time.
func isText(s string) bool {
	return len(s) <= api.MaxText && !strings.ContainsAny(s, "'\n")
}

func isStage(s string) bool {
	if len(s) == 0 || len(s) > api.MaxName || !isLetter(s[0]) {
		return false
	}
	for i := range len(s) {
		if !isLetter(s[i]) && !isDigit(s[i]) {
			return false
		}
	}
	return isFree(s)
}

func isLetter(c byte) bool { return 'a' <= c && c <= 'z' }

func isDigit(c byte) bool { return '0' <= c && c <= '9' }
