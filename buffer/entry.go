package buffer

import "weaver/api"

// none is the parent of an entry that has none.
const none = -1

// key is what tells entries apart: no two have the same.
type key struct{ stage, place, parent int }

func (k key) inRange() bool {
	return k.stage >= 0 && k.stage < api.MaxStages && k.place >= 0 && k.place <= api.MaxSeq
}

func (k key) isFirst() bool { return k.parent == none }

func (k key) follows(parent key) bool {
	return k.stage >= parent.stage && k.place > parent.place
}

// count keeps callers and children apart, since a caller can drop only what callers hold.
type count struct{ held, children int }

func (c *count) sum() int { return c.held + c.children }

func (c *count) hold() { c.held++ }

// letGo tells whether there was a caller to let it go.
func (c *count) letGo() bool {
	if c.held == 0 {
		return false
	}
	c.held--
	return true
}

// entry needs no mark of its own for whether it is there: it is as long as its count is above 0.
type entry struct {
	key
	count
}
