package expr

import (
	"slices"
	"strings"

	"weaver/api"
	"weaver/token"
)

// maxNested is how deep brackets and nots may lie in one another.
const maxNested = 200

// level is a row of the grammar: the function that reads it, and the operations that stand there.
type level struct {
	read func(r *reader, n int) bool
	ops  []int
}

// grammar has the levels that bind least first.
func grammar() []level {
	return []level{
		{(*reader).chain, []int{api.EOr}},
		{(*reader).chain, []int{api.EAnd}},
		{(*reader).denial, []int{api.ENot}},
		{(*reader).pair, []int{api.ELess, api.EAtMost, api.EEqual, api.EUnlike}},
		{(*reader).chain, []int{api.EAdd, api.ESub}},
		{(*reader).chain, []int{api.EMul}},
		{(*reader).leaf, nil},
	}
}

// reader goes over tokens that end with an end, which it never takes. Where a function of it
// answers false, the token that may not stand there is the next one.
type reader struct {
	levels []level
	ops    table
	tokens []api.Token
	next   int
	nested int
	parts  []api.Part
}

// couldBeTold lays the tokens out as a text, each at its place with spaces between, and asks what
// Tokens tells of that: other blanks would not matter, and nothing else could stand there.
func couldBeTold(l []api.Token) bool {
	var s strings.Builder
	for i, t := range l {
		one, e := token.Join(l[i : i+1])
		if e != api.OK || t.At < s.Len() || t.At > api.MaxBytes {
			return false
		}
		s.WriteString(strings.Repeat(" ", t.At-s.Len()))
		s.WriteString(one)
	}
	told, f := token.Tokens(s.String())
	return f.Code == api.OK && slices.Equal(told, l)
}

// parse is Parse of tokens that Tokens told.
func parse(l []api.Token) ([]api.Part, int, api.Fault) {
	r := reader{levels: grammar(), ops: operations(), tokens: l}
	if !r.read(0) {
		return nil, 0, api.Fault{At: l[r.next].At, Code: api.ErrExpr}
	}
	if _, e := Check(r.parts); e != api.OK {
		return nil, 0, api.Fault{Code: e}
	}
	return r.parts, r.next, api.Fault{}
}

func (r *reader) read(n int) bool {
	return r.levels[n].read(r, n)
}

// chain reads operations from the left, as long as one of the level comes.
func (r *reader) chain(n int) bool {
	from := len(r.parts)
	ok := r.read(n + 1)
	for ok && r.takeOperation(n, from) {
		ok = r.read(n + 1)
	}
	return ok
}

// pair reads one operation at most.
func (r *reader) pair(n int) bool {
	from := len(r.parts)
	if !r.read(n + 1) {
		return false
	}
	return !r.takeOperation(n, from) || r.read(n+1)
}

func (r *reader) denial(n int) bool {
	if r.takeOperation(n, len(r.parts)) {
		return r.inner(n)
	}
	return r.read(n + 1)
}

func (r *reader) leaf(int) bool {
	t := r.tokens[r.next]
	switch t.Kind {
	case api.TNum:
		return r.take(api.Part{Kind: api.ENum, N: t.N})
	case api.TText:
		return r.take(api.Part{Kind: api.EText, S: strings.Clone(t.S)})
	case api.TWord:
		return r.field()
	}
	return r.skip("(") && r.inner(0) && r.skip(")")
}

func (r *reader) field() bool {
	stage := ""
	if word := r.word(); isFree(word) {
		stage = strings.Clone(word)
		r.next++
		if !r.skip(".") {
			return false
		}
	}
	field := fieldOf(r.word())
	return field >= 0 && r.take(api.Part{Kind: api.EField, Stage: stage, Field: field})
}

// inner reads what lies one deeper, behind a bracket or a not.
func (r *reader) inner(n int) bool {
	r.nested++
	ok := r.nested <= maxNested && r.read(n)
	r.nested--
	return ok
}

// word is the next token's text, if it is a word or a sign; a text could read as one of these.
func (r *reader) word() string {
	t := r.tokens[r.next]
	if t.Kind == api.TWord || t.Kind == api.TSign {
		return t.S
	}
	return ""
}

func (r *reader) skip(sign string) bool {
	if r.word() != sign {
		return false
	}
	r.next++
	return true
}

func (r *reader) take(p api.Part) bool {
	r.parts = append(r.parts, p)
	r.next++
	return true
}

// takeOperation takes one of the level, if it comes, and puts it ahead of what was read from that
// part on.
func (r *reader) takeOperation(n, from int) bool {
	for _, kind := range r.levels[n].ops {
		if r.skip(r.ops[kind].sign) {
			r.parts = slices.Insert(r.parts, from, api.Part{Kind: kind})
			return true
		}
	}
	return false
}
