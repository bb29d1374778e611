package trip

import "weaver/api"

// fall tells whether this was the first reason. Only the once knows: a look at the reason ahead of
// it would let two that fail at the same time both be the first.
func (t *Trip) fall(code api.Errno, at int) bool {
	first := false
	t.once.Do(func() {
		t.reason = api.Fault{At: at, Code: code}
		first = true
	})
	return first
}

// isDown needs no mark of its own, since no reason has the code OK.
func (t *Trip) isDown() bool {
	return t.reason.Code != api.OK
}
