package pattern

import (
	"slices"

	"weaver/api"
	"weaver/expr"
)

// mayFollow tells whether the stage may stand behind those of these names.
func mayFollow(s api.Stage, ahead []string) bool {
	if !isName(s.Name) || slices.Contains(ahead, s.Name) {
		return false
	}
	if s.How < api.SStart || s.How > api.SAny || (s.How == api.SStart) != (len(ahead) == 0) {
		return false
	}
	return isCondition(s.Cond, ahead)
}

// isName has layer 11 look at a field of a stage of that name, so that what a pattern names and
// what a condition can ask for are the same; without a name that would be the event at hand's.
func isName(s string) bool {
	_, e := expr.Check([]api.Part{{Kind: api.EField, Stage: s}})
	return s != "" && e == api.OK
}

// truth is the kind by which layer 11 tells a condition from other expressions.
const truth = 3

// isCondition tells whether x is a condition that asks for no other stages than these.
func isCondition(x []api.Part, ahead []string) bool {
	if kind, _ := expr.Check(x); kind != truth {
		return false
	}
	asked, _ := expr.Stages(x)
	for _, name := range asked {
		if !slices.Contains(ahead, name) {
			return false
		}
	}
	return true
}
