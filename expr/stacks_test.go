package expr_test

import (
	"slices"

	"weaver/api"
)

// bindOf says how much each operation binds; a bracket, 0, less than all.
var bindOf = map[int]int{
	0: 0, api.EOr: 1, api.EAnd: 2, api.ENot: 3, api.ELess: 4, api.EAtMost: 4, api.EEqual: 4, api.EUnlike: 4,
	api.EAdd: 5, api.ESub: 5, api.EMul: 6,
}

// stacks reads tokens by two stacks, of what waits for a side (operations, and 0 of a bracket), and
// of trees that are done: the way of the program's own reader is another one.
type stacks struct {
	waits []int
	done  []*tree
}

func (s *stacks) top() int {
	if len(s.waits) == 0 {
		return 0
	}
	return s.waits[len(s.waits)-1]
}

// close makes trees of all operations that wait and bind at least so much.
func (s *stacks) close(bind int) {
	for len(s.waits) > 0 && bindOf[s.top()] >= bind {
		n := 2
		if s.top() == api.ENot {
			n = 1
		}
		rest := len(s.done) - n
		one := of(s.top(), slices.Clone(s.done[rest:])...)
		s.done = append(s.done[:rest], one)
		s.waits = s.waits[:len(s.waits)-1]
	}
}

func (s *stacks) nested() int {
	n := 0
	for _, x := range s.waits {
		if x == 0 || x == api.ENot {
			n++
		}
	}
	return n
}

func is(t api.Token, kind int, s string) bool { return t.Kind == kind && t.S == s }

func fieldNumber(t api.Token) int {
	if t.Kind != api.TWord {
		return -1
	}
	return slices.Index([]string{"n0", "n1", "n2", "n3", "type", "text"}, t.S)
}

// operand reads a leaf, or what stands ahead of one: how many tokens it has, whether it was a leaf,
// and whether it may stand there (else the fault is so many tokens behind).
func (s *stacks) operand(l []api.Token) (n int, leafRead, ok bool) {
	t := l[0]
	switch {
	case t.Kind == api.TNum:
		s.done = append(s.done, leaf(num(t.N)))
		return 1, true, true
	case t.Kind == api.TText:
		s.done = append(s.done, leaf(text(t.S)))
		return 1, true, true
	case is(t, api.TSign, "("):
		s.waits = append(s.waits, 0)
		return 1, false, s.nested() <= 200
	case is(t, api.TWord, "not") && bindOf[s.top()] <= bindOf[api.ENot]:
		s.waits = append(s.waits, api.ENot)
		return 1, false, s.nested() <= 200
	case fieldNumber(t) >= 0:
		s.done = append(s.done, leaf(field("", fieldNumber(t))))
		return 1, true, true
	case t.Kind != api.TWord || slices.Contains([]string{"or", "and", "not"}, t.S):
		return 0, false, false
	case !is(l[1], api.TSign, "."):
		return 1, false, false
	case fieldNumber(l[2]) < 0:
		return 2, false, false
	}
	s.done = append(s.done, leaf(field(t.S, fieldNumber(l[2]))))
	return 3, true, true
}

// behind takes what may stand behind a leaf: an operation, or a bracket's end; goesOn is false, if
// the token is neither.
func (s *stacks) behind(t api.Token) (operation, goesOn bool) {
	if is(t, api.TSign, ")") && slices.Contains(s.waits, 0) {
		s.close(1)
		s.waits = s.waits[:len(s.waits)-1]
		return false, true
	}
	for _, kind := range binary {
		if !is(t, api.TSign, signOf[kind]) && !is(t, api.TWord, signOf[kind]) {
			continue
		}
		bind := bindOf[kind]
		if bind == 4 {
			s.close(5)
			if bindOf[s.top()] == 4 {
				return false, false
			}
		}
		s.close(bind)
		s.waits = append(s.waits, kind)
		return true, true
	}
	return false, false
}

// modelParse is what Parse is to tell of tokens that Tokens told.
func modelParse(l []api.Token) ([]api.Part, int, api.Fault) {
	var s stacks
	at, wanted := 0, true
	for {
		if wanted {
			n, leafRead, ok := s.operand(l[at:])
			at += n
			if !ok {
				return nil, 0, fault(l[at].At, api.ErrExpr)
			}
			wanted = !leafRead
			continue
		}
		operation, goesOn := s.behind(l[at])
		if !goesOn {
			break
		}
		wanted = operation
		at++
	}
	if slices.Contains(s.waits, 0) {
		return nil, 0, fault(l[at].At, api.ErrExpr)
	}
	s.close(1)
	if !s.done[0].mayBe() {
		return nil, 0, fault(0, api.ErrExpr)
	}
	return s.done[0].parts(), at, api.Fault{}
}
