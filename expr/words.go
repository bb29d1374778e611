package expr

import "weaver/api"

// fields are the words of an event's fields, by their numbers.
var fields = [...]string{"n0", "n1", "n2", "n3", api.FType: "type", api.FText: "text"}

// fieldOf is the number of the field that a word names; -1, if it names none.
func fieldOf(word string) int {
	for i, s := range fields {
		if s == word {
			return i
		}
	}
	return -1
}

// isFree tells of a word whether a stage may have it as its name.
func isFree(word string) bool {
	switch word {
	case "or", "and", "not":
		return false
	}
	return fieldOf(word) < 0
}
