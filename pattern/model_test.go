package pattern_test

import (
	"fmt"
	"math/rand"
	"reflect"
	"regexp"
	"slices"
	"strconv"
	"strings"
	"testing"

	"weaver/api"
	"weaver/expr"
	"weaver/token"
)

func fault(at int, code api.Errno) api.Fault { return api.Fault{At: at, Code: code} }

func pick[T any](r *rand.Rand, of []T) T { return of[r.Intn(len(of))] }

// told is a pattern as a text, for a message that may cut it off.
func told(p api.Pattern) string { return fmt.Sprintf("%+v", p) }

// same takes a list without an element as the same as none (R3).
func same(a, b api.Pattern) bool {
	return a.Within == b.Within && slices.EqualFunc(a.Stages, b.Stages, func(x, y api.Stage) bool {
		return x.Name == y.Name && x.How == y.How && x.Many == y.Many && slices.Equal(x.Cond, y.Cond)
	})
}

func deepCopy(p api.Pattern) api.Pattern {
	p.Stages = slices.Clone(p.Stages)
	for i := range p.Stages {
		p.Stages[i].Cond = slices.Clone(p.Stages[i].Cond)
	}
	return p
}

// cond is a condition, or another expression, by its text.
func cond(s string) []api.Part {
	x, f := expr.Read(s)
	if f != (api.Fault{}) {
		panic(fmt.Sprint(s, f))
	}
	return x
}

func stage(how int, name string, many bool, condition string) api.Stage {
	return api.Stage{Name: name, How: how, Many: many, Cond: cond(condition)}
}

func ofStages(within int, stages ...api.Stage) api.Pattern {
	return api.Pattern{Stages: stages, Within: within}
}

// row is a pattern of so many stages, which may be: each one follows in another way, and asks for
// the one ahead.
func row(n int) api.Pattern {
	p := ofStages(n+1, stage(api.SStart, "s0", false, "type == 'x'"))
	for i := 1; i < n; i++ {
		p.Stages = append(p.Stages, stage(1+i%3, "s"+strconv.Itoa(i), i%2 == 1, fmt.Sprintf("s%d.n0 < n1 or n0 == %d", i-1, i)))
	}
	return p
}

var (
	hows     = []string{"start", "next", "then", "any"}
	reserved = []string{"or", "and", "not", "n0", "n1", "n2", "n3", "type", "text"}
	nameForm = regexp.MustCompile(`^[a-z][a-z0-9]{0,31}$`)
)

func modelName(s string) bool {
	return nameForm.MatchString(s) && !strings.HasSuffix(s, "\n") && !slices.Contains(reserved, s)
}

// modelCheck says it from the back: the last thing that is told is the first that is wrong.
func modelCheck(p api.Pattern) (int, api.Errno) {
	n, at, e := len(p.Stages), 0, api.OK
	if n == 0 || n > 8 {
		return 0, api.ErrPattern
	}
	wrong := func(i int) { at, e = i, api.ErrPattern }
	if p.Within <= 0 || p.Within >= 257 {
		wrong(n)
	}
	for i := n - 1; i >= 0; i-- {
		s := p.Stages[i]
		kind, _ := expr.Check(s.Cond)
		rightHow := i == 0 && s.How == 0 || i > 0 && (s.How == 1 || s.How == 2 || s.How == 3)
		if kind != 3 || !rightHow || !modelName(s.Name) {
			wrong(i)
		}
		asked := map[string]int{}
		for _, x := range s.Cond {
			asked[x.Stage]++
		}
		delete(asked, "")
		for _, ahead := range p.Stages[:i] {
			delete(asked, ahead.Name)
			if ahead.Name == s.Name {
				wrong(i)
			}
		}
		if len(asked) > 0 {
			wrong(i)
		}
	}
	return at, e
}

// modelWrite is the text of a pattern that may be, however long it is.
func modelWrite(p api.Pattern) string {
	var s strings.Builder
	for _, x := range p.Stages {
		c, _ := expr.Write(x.Cond)
		s.WriteString(hows[x.How] + " " + x.Name)
		if x.Many {
			s.WriteString(" +")
		}
		s.WriteString(" : " + c + " ; ")
	}
	return s.String() + "within " + strconv.Itoa(p.Within)
}

// class is what a token may be in a pattern's text, as a byte.
func class(t api.Token) byte {
	switch {
	case t.Kind == api.TEnd:
		return '$'
	case t.Kind == api.TNum:
		return '9'
	case t.Kind == api.TSign && strings.Contains("+:;", t.S):
		return t.S[0]
	case t.Kind == api.TWord && slices.Contains(hows, t.S):
		return 'h'
	case t.Kind == api.TWord && t.S == "within":
		return 'w'
	case t.Kind == api.TWord && !slices.Contains(reserved, t.S):
		return 'a'
	}
	return '?'
}

// roads has for each state which classes of tokens may stand there, and the states behind them.
var roads = map[string]map[byte]string{
	"begin":  {'h': "name", 'w': "within"},
	"name":   {'h': "many", 'w': "many", 'a': "many"},
	"many":   {'+': "colon", ':': "cond"},
	"colon":  {':': "cond"},
	"semi":   {';': "begin"},
	"within": {'9': "end"},
	"end":    {'$': "done"},
}

// modelRead is what Read is to tell. Conditions are read out of the text with blanks in place of
// all that stands ahead of them.
func modelRead(s string) (api.Pattern, api.Fault) {
	l, f := token.Tokens(s)
	if f != (api.Fault{}) {
		return api.Pattern{}, f
	}
	var p api.Pattern
	state, stages := "begin", make([]api.Stage, 9)
	n := -1
	for i := 0; state != "done"; {
		if state == "cond" {
			blanked, _ := token.Tokens(strings.Repeat(" ", l[i-1].At+1) + s[l[i-1].At+1:])
			x, end, f := expr.Parse(blanked)
			if f != (api.Fault{}) {
				return api.Pattern{}, f
			}
			stages[n].Cond, state = x, "semi"
			i += end
			continue
		}
		to := roads[state][class(l[i])]
		if to == "" || to == "name" && n == 7 {
			return api.Pattern{}, fault(l[i].At, api.ErrPattern)
		}
		switch {
		case to == "name":
			n++
			stages[n].How = slices.Index(hows, l[i].S)
		case to == "many":
			stages[n].Name = l[i].S
		case to == "colon":
			stages[n].Many = true
		case to == "end":
			p.Within = int(l[i].N)
		}
		state = to
		i++
	}
	p.Stages = stages[:n+1]
	if _, e := modelCheck(p); e != api.OK {
		return api.Pattern{}, fault(0, e)
	}
	return p, api.Fault{}
}

// The models tell the chapter's examples.
func TestModels(t *testing.T) {
	p, f := modelRead("start a: type == 'x'; next b+: a.n0 < n0; within 5")
	want := ofStages(5, stage(api.SStart, "a", false, "type == 'x'"), stage(api.SNext, "b", true, "a.n0 < n0"))
	if !reflect.DeepEqual(p, want) || f != (api.Fault{}) || modelWrite(p) != "start a : type == 'x' ; next b + : a . n0 < n0 ; within 5" {
		t.Error(p, f, modelWrite(p))
	}
	for s, want := range map[string]api.Fault{
		"start a: n0 < 1; start b: n0 < 1; within 5": fault(0, api.ErrPattern),
		"start a: b.n0 < 1; within 5":                fault(0, api.ErrPattern),
		"next":                                       fault(4, api.ErrPattern),
	} {
		if _, f := modelRead(s); f != want {
			t.Error(s, f)
		}
	}
}
