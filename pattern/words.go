package pattern

import "weaver/api"

const within = "within"

// follows are the words that stages begin with, by their How.
var follows = [...]string{api.SStart: "start", api.SNext: "next", api.SThen: "then", api.SAny: "any"}

// howOf tells how a stage follows that begins with the word; false, if none does. The numbers count
// up in the order of the words, so that a word falls through all that come ahead of it, and counts
// them.
func howOf(word string) (how int, ok bool) {
	how = api.SStart
	switch word {
	case "any":
		how++
		fallthrough
	case "then":
		how++
		fallthrough
	case "next":
		how++
		fallthrough
	case "start":
		return how, true
	}
	return 0, false
}
