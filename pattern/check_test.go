package pattern_test

import (
	"fmt"
	"math"
	"slices"
	"strconv"
	"strings"
	"testing"

	"weaver/api"
	"weaver/expr"
	"weaver/pattern"
)

// wantMay: Check and Write do not refuse, and what is written is read again (12.3).
func wantMay(t *testing.T, p api.Pattern) {
	t.Helper()
	if n, e := pattern.Check(p); n != 0 || e != api.OK {
		t.Errorf("Check(%.600s) = %d, %d", told(p), n, e)
	}
	s, e := pattern.Write(p)
	if s != modelWrite(p) || e != api.OK {
		t.Errorf("Write(%.600s) = %.300q, %d", told(p), s, e)
	}
	if again, f := pattern.Read(s); !same(again, p) || f != (api.Fault{}) {
		t.Errorf("Read(%.300q) = %.600s, %v, want %.600s", s, told(again), f, told(p))
	}
}

// wantMayNot: Check tells the stage, and Write tells nothing beside the error (R5).
func wantMayNot(t *testing.T, stage int, p api.Pattern) {
	t.Helper()
	if n, e := pattern.Check(p); n != stage || e != api.ErrPattern {
		t.Errorf("Check(%.600s) = %d, %d, want %d", told(p), n, e, stage)
	}
	if s, e := pattern.Write(p); s != "" || e != api.ErrPattern {
		t.Errorf("Write(%.600s) = %.300q, %d", told(p), s, e)
	}
}

// with is a row of so many stages, one of which was changed.
func with(n, i int, change func(s *api.Stage)) api.Pattern {
	p := row(n)
	change(&p.Stages[i])
	return p
}

// eachStage calls with the numbers of stages of rows, and a stage of each.
func eachStage(call func(n, i int)) {
	for n := 1; n <= api.MaxStages; n++ {
		for i := range n {
			call(n, i)
		}
	}
}

// 12.1: from 1 to api.MaxStages stages.
func TestHowMany(t *testing.T) {
	for n := 1; n <= api.MaxStages; n++ {
		wantMay(t, row(n))
	}
	wantMayNot(t, 0, api.Pattern{})
	wantMayNot(t, 0, api.Pattern{Within: 5})
	wantMayNot(t, 0, api.Pattern{Stages: []api.Stage{}, Within: 5})
	for _, n := range []int{api.MaxStages + 1, api.MaxStages + 2, 16, 256 + 1, 1 << 12} {
		wantMayNot(t, 0, row(n))
		wantMayNot(t, 0, with(n, n-1, func(s *api.Stage) { s.Name = "" }))
	}
}

// 12.1: a stage's name is one of chapter 11's.
func TestNames(t *testing.T) {
	wrong := append([]string{"", " ", "A", "0", "9a", "a b", "a ", " a", "a\n", "a.b", "a_", "é", "+", ":", "'a'", "\x00", "\xff",
		strings.Repeat("z", api.MaxName+1), strings.Repeat("z", 1<<16)}, reserved...)
	right := []string{"a", "z", "a0", "n", "n4", "n00", "o", "orr", "types", "start", "next", "then", "any", "within", strings.Repeat("z", api.MaxName)}
	eachStage(func(n, i int) {
		for _, name := range wrong {
			wantMayNot(t, i, with(n, i, func(s *api.Stage) { s.Name = name }))
		}
		for _, name := range right {
			p := with(n, i, func(s *api.Stage) { s.Name = name })
			if i+1 < n {
				p.Stages[i+1].Cond = cond(name + ".n0 < 1")
			}
			wantMay(t, p)
		}
	})
	for c := range 256 {
		s := string([]byte{byte(c)})
		for _, name := range []string{s, "a" + s, s + "a", "a" + s + "a"} {
			p := ofStages(1, api.Stage{Name: name, Cond: cond("n0 < 1")})
			if modelName(name) {
				wantMay(t, p)
			} else {
				wantMayNot(t, 0, p)
			}
		}
	}
}

// 12.1: no two stages of the same name; the later one may not be.
func TestSameNames(t *testing.T) {
	for n := 2; n <= api.MaxStages; n++ {
		for i := range n {
			for j := range i {
				p := row(n)
				p.Stages[i].Name = p.Stages[j].Name
				wantMayNot(t, i, p)
				p = row(n)
				p.Stages[j].Name = p.Stages[i].Name
				if j+1 < n {
					p.Stages[j+1].Cond = cond("n0 < 1")
				}
				wantMayNot(t, i, p)
			}
		}
	}
}

// 12.1: the first stage, and no other one, is SStart; all How are of the four.
func TestHow(t *testing.T) {
	eachStage(func(n, i int) {
		for _, how := range []int{-1, -2, 4, 5, 256, 256 + 1, 1 << 32, 1<<32 + 1, math.MinInt, math.MaxInt} {
			wantMayNot(t, i, with(n, i, func(s *api.Stage) { s.How = how }))
		}
		for how := api.SStart; how <= api.SAny; how++ {
			p := with(n, i, func(s *api.Stage) { s.How = how })
			if (i == 0) == (how == api.SStart) {
				wantMay(t, p)
			} else {
				wantMayNot(t, i, p)
			}
		}
	})
}

// 12.1: any stage may take many events, or one.
func TestMany(t *testing.T) {
	for n := 1; n <= api.MaxStages; n++ {
		for set := range 1 << n {
			p := row(n)
			for i := range n {
				p.Stages[i].Many = set>>i&1 == 1
			}
			wantMay(t, p)
		}
	}
}

// 12.1: a stage's condition is a truth that may be.
func TestConditions(t *testing.T) {
	deep := cond("n0" + strings.Repeat("+1", api.MaxDepth-2) + "<1")
	wrong := [][]api.Part{
		nil, {}, cond("1"), cond("n0"), cond("'x'"), cond("type"), cond("n0 + 1"), cond("n0 < 1")[:2], cond("n0 < 1")[1:],
		append(cond("n0 < 1"), cond("n0 < 1")...), {{Kind: api.ENot}}, {{Kind: 14}}, {{}},
		{{Kind: api.EAnd}, {Kind: api.ENum}, {Kind: api.ENum}}, {{Kind: api.ELess}, {Kind: api.ENum, N: -1}, {Kind: api.ENum}},
		{{Kind: api.ELess, Stage: "s0"}, {Kind: api.ENum}, {Kind: api.ENum}}, {{Kind: api.EEqual}, {Kind: api.EText, S: "'"}, {Kind: api.EText}},
		append([]api.Part{{Kind: api.ENot}}, deep...), slices.Repeat(cond("n0 < 1"), 100),
	}
	right := [][]api.Part{cond("1 < 2"), cond("type == ''"), cond("not n0 <= n1"), cond("n0 < 1 or n1 != 2 and text == 'q'"), deep}
	eachStage(func(n, i int) {
		for _, x := range wrong {
			wantMayNot(t, i, with(n, i, func(s *api.Stage) { s.Cond = x }))
		}
		for _, x := range right {
			wantMay(t, with(n, i, func(s *api.Stage) { s.Cond = x }))
		}
	})
}

// 12.1: a condition asks for stages ahead of its own alone.
func TestAsks(t *testing.T) {
	eachStage(func(n, i int) {
		for j := range n + 1 { // the last one is no stage's
			for _, form := range []string{"s%d.n0 < 1", "n0 == s%d.n3 + 1", "type != s%d.type", "n0 < 1 and (n1 < 2 or not s%d.text == 'x')"} {
				p := with(n, i, func(s *api.Stage) { s.Cond = cond(fmt.Sprintf(form, j)) })
				if j < i {
					wantMay(t, p)
				} else {
					wantMayNot(t, i, p)
				}
			}
		}
		all := "n0 < 1"
		for j := range i {
			all += " or s" + strconv.Itoa(j) + ".n0 < n0"
		}
		wantMay(t, with(n, i, func(s *api.Stage) { s.Cond = cond(all) }))
		wantMayNot(t, i, with(n, i, func(s *api.Stage) { s.Cond = cond(all + " or s" + strconv.Itoa(i) + ".n0 < n0") }))
		for _, other := range []string{"s", "s00", "z", "s0s", "x.n0 < 1 or s0"} {
			wantMayNot(t, i, with(n, i, func(s *api.Stage) { s.Cond = cond(other + ".n0 < 1") }))
		}
	})
}

// 12.1: Within is from 1 to api.MaxWindow, however many stages there are.
func TestWithin(t *testing.T) {
	for n := 1; n <= api.MaxStages; n++ {
		p := row(n)
		for p.Within = 1; p.Within <= api.MaxWindow; p.Within++ {
			wantMay(t, p)
		}
		for _, within := range []int{0, -1, -5, api.MaxWindow + 1, 512, 1<<16 + 1, 1<<32 + 5, math.MinInt, math.MaxInt} {
			p.Within = within
			wantMayNot(t, n, p)
		}
	}
}

// 12.1, R1: the first stage that may not be, ahead of later ones and of Within.
func TestFirstWrong(t *testing.T) {
	changes := []func(s *api.Stage){
		func(s *api.Stage) { s.Name = "or" },
		func(s *api.Stage) { s.How = -1 },
		func(s *api.Stage) { s.Cond = nil },
		func(s *api.Stage) { s.Cond = cond("z.n0 < 1") },
	}
	eachStage(func(n, i int) {
		for j := i; j < n; j++ {
			for _, first := range changes {
				for _, later := range changes {
					p := with(n, i, first)
					later(&p.Stages[j])
					wantMayNot(t, i, p)
					p.Within = 0
					wantMayNot(t, i, p)
				}
			}
		}
	})
}

// R4: nothing that is handed in is changed, and what lies behind the lists is not asked for.
func TestGivenStays(t *testing.T) {
	p := row(4)
	p.Stages[0].Cond = append(p.Stages[0].Cond, api.Part{Kind: 99})[:len(p.Stages[0].Cond)]
	p.Stages = append(p.Stages, api.Stage{Name: "or", How: 9})[:4]
	was := deepCopy(p)
	wantMay(t, p)
	if !same(p, was) || p.Stages[:5][4].How != 9 || p.Stages[:5][4].Name != "or" || p.Stages[0].Cond[:4][3].Kind != 99 {
		t.Errorf("the pattern is %s now, was %s", told(p), told(was))
	}
	p.Within = 0
	wantMayNot(t, 4, p)
}

// 12.3: each condition can be reckoned when the stages ahead have events.
func TestCanBeReckoned(t *testing.T) {
	for n := 1; n <= api.MaxStages; n++ {
		wantReckoned(t, row(n))
	}
}

func wantReckoned(t *testing.T, p api.Pattern) {
	t.Helper()
	var names []string
	for i, s := range p.Stages {
		if _, e := expr.Holds(s.Cond, api.Event{}, names, make([]api.Event, i)); e != api.OK {
			t.Errorf("stage %d of %.600s: %d", i, told(p), e)
		}
		names = append(names, s.Name)
	}
}
