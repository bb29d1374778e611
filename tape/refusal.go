package tape

import "weaver/api"

// refusal is what a call gives up with, of a type of its own, so that no other panic is taken for one.
type refusal struct {
	code api.Errno
}

func giveUp(e api.Errno) {
	panic(refusal{e})
}

func mustBeOK(e api.Errno) {
	if e != api.OK {
		giveUp(e)
	}
}

// codeOf lets a panic that is no refusal go on: answered as an error, it would hide a fault of the program.
func codeOf(caught any) api.Errno {
	r, ours := caught.(refusal)
	if !ours {
		panic(caught)
	}
	return r.code
}
