package pattern

import (
	"weaver/api"
	"weaver/expr"
)

// reader goes over tokens that end with an end, which it never takes. Where a function of it
// answers false, a condition was refused, or the next token may not stand there.
type reader struct {
	tokens  []api.Token
	next    int
	read    api.Pattern
	refused api.Fault
}

func (r *reader) fault() api.Fault {
	if r.refused.Code != api.OK {
		return r.refused
	}
	return api.Fault{At: r.tokens[r.next].At, Code: api.ErrPattern}
}

func (r *reader) pattern() bool {
	for !r.skip(within) {
		if len(r.read.Stages) == api.MaxStages || !r.stage() {
			return false
		}
	}
	return r.number() && r.tokens[r.next].Kind == api.TEnd
}

func (r *reader) stage() bool {
	var s api.Stage
	if !r.how(&s) || !r.name(&s) {
		return false
	}
	s.Many = r.skip("+")
	if !r.skip(":") || !r.condition(&s) || !r.skip(";") {
		return false
	}
	r.read.Stages = append(r.read.Stages, s)
	return true
}

func (r *reader) how(s *api.Stage) bool {
	how, ok := howOf(r.word())
	if ok {
		s.How = how
		r.next++
	}
	return ok
}

func (r *reader) name(s *api.Stage) bool {
	name := r.word()
	if !isName(name) {
		return false
	}
	s.Name = name
	r.next++
	return true
}

func (r *reader) condition(s *api.Stage) bool {
	x, end, f := expr.Parse(r.tokens[r.next:])
	s.Cond, r.refused = x, f
	r.next += end
	return f.Code == api.OK
}

// number cuts a number that no window has down to one that an int holds wherever the program runs.
func (r *reader) number() bool {
	t := r.tokens[r.next]
	if t.Kind != api.TNum {
		return false
	}
	r.read.Within = int(min(t.N, api.MaxWindow+1))
	r.next++
	return true
}

// word is the next token's text, if it is a word or a sign; a text could read as one of these.
func (r *reader) word() string {
	t := r.tokens[r.next]
	if t.Kind == api.TWord || t.Kind == api.TSign {
		return t.S
	}
	return ""
}

func (r *reader) skip(s string) bool {
	if r.word() != s {
		return false
	}
	r.next++
	return true
}
