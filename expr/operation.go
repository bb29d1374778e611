package expr

import (
	"slices"

	"weaver/api"
)

// What an expression may be, as Check numbers it; 0 is none of these.
const (
	number = 1 + iota
	text
	truth
)

// Sets of kinds: those that the sides of an operation may be of.
const (
	numbers uint = 1 << number
	texts   uint = 1 << text
	truths  uint = 1 << truth
)

// operation is a row of the table of operations: how it is written, how many sides it has, of
// which kinds these may be (all of one), of which it is itself, and its value, of theirs.
type operation struct {
	sign  string
	sides int
	of    uint
	is    int
	value func(a, b value) value
}

// table has a row for each Kind of a part: those of leaves, which have no sides, are zero.
type table [api.ENot + 1]operation

func operations() table {
	return table{
		api.EAdd:    {"+", 2, numbers, number, func(a, b value) value { return value{n: a.n + b.n} }},
		api.ESub:    {"-", 2, numbers, number, func(a, b value) value { return value{n: a.n - b.n} }},
		api.EMul:    {"*", 2, numbers, number, func(a, b value) value { return value{n: a.n * b.n} }},
		api.ELess:   {"<", 2, numbers, truth, func(a, b value) value { return value{t: a.n < b.n} }},
		api.EAtMost: {"<=", 2, numbers, truth, func(a, b value) value { return value{t: a.n <= b.n} }},
		api.EEqual:  {"==", 2, numbers | texts, truth, func(a, b value) value { return value{t: a == b} }},
		api.EUnlike: {"!=", 2, numbers | texts, truth, func(a, b value) value { return value{t: a != b} }},
		api.EAnd:    {"and", 2, truths, truth, func(a, b value) value { return value{t: a.t && b.t} }},
		api.EOr:     {"or", 2, truths, truth, func(a, b value) value { return value{t: a.t || b.t} }},
		api.ENot:    {"not", 1, truths, truth, func(a, b value) value { return value{t: !a.t} }},
	}
}

// row takes a Kind that there is not as a leaf's: which leaves may be is told elsewhere.
func (t *table) row(kind int) operation {
	if kind < 0 || kind >= len(t) {
		return operation{}
	}
	return t[kind]
}

// fits tells whether the operation can be of sides of these kinds.
func (op operation) fits(a, b int) bool {
	return op.of>>a&1 == 1 && (op.sides == 1 || a == b)
}

// fold makes something of an expression: part by part, from its back on, since there the sides of
// an operation are made when it comes. False, if x is not one whole expression.
func fold[T any](x []api.Part, each func(p api.Part, op operation, sides [2]T) T) (T, bool) {
	var none T
	ops := operations()
	made := make([]T, 0, 16) // what is no operation's side yet, the foremost last
	for _, p := range slices.Backward(x) {
		op := ops.row(p.Kind)
		if len(made) < op.sides {
			return none, false
		}
		var sides [2]T
		for i := range op.sides {
			last := len(made) - 1
			sides[i], made = made[last], made[:last]
		}
		made = append(made, each(p, op, sides))
	}
	if len(made) != 1 {
		return none, false
	}
	return made[0], true
}
