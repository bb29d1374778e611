package pattern_test

import (
	"fmt"
	"strings"
	"testing"
	"unsafe"

	"weaver/api"
	"weaver/pattern"
)

func wantRead(t *testing.T, s string, want api.Pattern) {
	t.Helper()
	if p, f := pattern.Read(s); !same(p, want) || f != (api.Fault{}) {
		t.Errorf("Read(%.300q) = %.600s, %v, want %.600s", s, told(p), f, told(want))
	}
}

// wantFault: R5 as well, nothing beside a fault.
func wantFault(t *testing.T, s string, at int, code api.Errno) {
	t.Helper()
	if p, f := pattern.Read(s); len(p.Stages) != 0 || p.Within != 0 || f != fault(at, code) {
		t.Errorf("Read(%.300q) = %.600s, %v, want %v", s, told(p), f, fault(at, code))
	}
}

// wantWrong: the text's front is right so far, and the token behind it may not stand there.
func wantWrong(t *testing.T, front, behind string) {
	t.Helper()
	for _, blanks := range []string{"", "\n "} {
		all := front + blanks + behind
		wantFault(t, all, len(all)-len(strings.TrimLeft(behind, " ")), api.ErrPattern)
	}
}

// The chapter's examples.
func TestReadExamples(t *testing.T) {
	wantRead(t, "start a: type == 'x'; next b+: a.n0 < n0; within 5",
		ofStages(5, stage(api.SStart, "a", false, "type == 'x'"), stage(api.SNext, "b", true, "a.n0 < n0")))
	wantFault(t, "start a: n0 < 1; start b: n0 < 1; within 5", 0, api.ErrPattern)
	wantFault(t, "start a: b.n0 < 1; within 5", 0, api.ErrPattern)
	wantFault(t, "next", 4, api.ErrPattern)
}

// 12.2: each word, sign and number of a pattern, with however many blanks between.
func TestRead(t *testing.T) {
	for how, word := range hows[1:] {
		for _, many := range []bool{false, true} {
			plus := strings.Repeat("+", map[bool]int{true: 1}[many])
			want := ofStages(7, stage(api.SStart, "a", many, "n0 < 1"), stage(how+1, "b", !many, "a.n0 < n0"), stage(how+1, "c", many, "b.type == type"))
			other := strings.Repeat("+", 1-len(plus))
			wantRead(t, "start a"+plus+":n0<1;"+word+" b"+other+":a.n0<n0;"+word+" c"+plus+":b.type==type;within 7", want)
			wantRead(t, "\n start\na "+plus+" :\nn0 <\n\n1 ; "+word+"  b\n"+other+" : a . n0 < n0\n;"+word+" c "+plus+" : b.type == type ;\n\nwithin\n\n7 \n", want)
		}
	}
	for _, n := range []int{1, 2, 9, 10, 99, api.MaxWindow - 1, api.MaxWindow} {
		wantRead(t, fmt.Sprint("start a: (not (n0 < 1)); within ", n), ofStages(n, stage(api.SStart, "a", false, "not n0 < 1")))
	}
	full := "start a: 1<2;" + strings.Repeat(" ", api.MaxBytes-len("start a: 1<2;within 5")) + "within 5"
	wantRead(t, full, ofStages(5, stage(api.SStart, "a", false, "1 < 2")))
}

// 12.2: a pattern's words may be stages' names, too, as chapter 11 says.
func TestReadNames(t *testing.T) {
	wantRead(t, "start start: n0 < 1; next next+: start.n0 < 1; then then: next.n0 < 1; any any: then.n0 < 1; any within+: any.n0 < 1; any x: within.n0 < 1; within 5",
		ofStages(5, stage(api.SStart, "start", false, "n0 < 1"), stage(api.SNext, "next", true, "start.n0 < 1"), stage(api.SThen, "then", false, "next.n0 < 1"),
			stage(api.SAny, "any", false, "then.n0 < 1"), stage(api.SAny, "within", true, "any.n0 < 1"), stage(api.SAny, "x", false, "within.n0 < 1")))
	for _, name := range []string{"a", "n4", "n", "orr", "types", strings.Repeat("z", api.MaxName)} {
		wantRead(t, "start "+name+": 1 < 2; within 5", ofStages(5, stage(api.SStart, name, false, "1 < 2")))
	}
}

const (
	first  = "start a: n0 < 1;"
	second = "next b+: a.n0 < n0;"
)

// 12.2: where a stage, or within, must begin.
func TestMustBegin(t *testing.T) {
	for _, front := range []string{"", first, first + second, first + "next a: n0;"} {
		for _, wrong := range []string{"", "a", "b", "or", "n0", "starts", "nexts", "+", ":", ";", ";;", "5", "'start'", "'within' 5", "(", "( start", "<= 1", "a: n0 < 1;", "last b: n0 < 1; within 5"} {
			wantWrong(t, front, wrong)
		}
	}
}

// 12.2: where a name of a stage must stand.
func TestMustBeNamed(t *testing.T) {
	for _, front := range []string{"start ", "next ", "then ", "any ", first + "start ", first + "next ", first + "any ", first + second + "then "} {
		for _, wrong := range append([]string{"", "+", ":", ": n0 < 1; within 5", ";", "5", "'a'", "'a': n0 < 1; within 5", "(a)", "."}, reserved...) {
			wantWrong(t, front, wrong)
			wantWrong(t, front, wrong+" : n0 < 1; within 5")
		}
	}
}

// 12.2: where a : must stand, or a + ahead of it.
func TestMustBeColon(t *testing.T) {
	for _, front := range []string{"start a", "start within", "next a", first + "next b", first + second + "then c"} {
		for _, wrong := range []string{"", " a", " start", " or", " n0 < 1; within 5", ";", "; within 5", ".n0", " 5", "':'", "'+'", "(", "-", "*", "=", "<= 1", " within 5"} {
			wantWrong(t, front, wrong)
			wantWrong(t, front+"+", wrong)
		}
		wantWrong(t, front+"+", "+: n0 < 1; within 5")
		wantWrong(t, front+" + ", "+")
	}
}

// 12.2: what Parse refuses, with its code and place: conditions of any stage, whatever stands behind.
func TestParseRefuses(t *testing.T) {
	deep := strings.Repeat("(", 201)
	for _, front := range []string{"start a:", "start a: ", "start a+:\n", "next a: ", first + "next b: ", first + second + "then a:\n\n "} {
		for _, behind := range []string{"", "; within 5", "; next", "; 5", "; 'x' within within"} {
			for _, ends := range []string{"", "n0 <", "not", "(", "1 +", "n0 < 1 and", "n0 < 1 or not", "a.", "a", "1 < a", "n0 < 1 and a.n0 ==", "(n0 < 1"} {
				wantFault(t, front+ends+behind, len(front+ends), api.ErrExpr)
				wantFault(t, front+ends+"\n "+behind, len(front+ends)+2, api.ErrExpr)
			}
			for _, begins := range []string{"or", "and 1", ": n0 < 1", ") < 1", "+ 1", "=", "< 1", ". n0"} {
				wantFault(t, front+begins+behind, len(front), api.ErrExpr)
			}
			for _, name := range []string{"within ", "start ", "b "} {
				wantFault(t, front+name+"5"+behind, len(front+name), api.ErrExpr)
				wantFault(t, front+name+": n0 < 1"+behind, len(front+name), api.ErrExpr)
			}
			for _, mayNot := range []string{"n0 and 1", "not n0", "type < 'x'", "1 == 'x'", "(n0 < 1) + 1", "a.n0 < a.type", "1" + strings.Repeat("+1", api.MaxDepth) + " < 1"} {
				wantFault(t, front+mayNot+behind, 0, api.ErrExpr)
			}
			wantFault(t, front+deep+"1 < 2"+strings.Repeat(")", 201)+behind, len(front)+201, api.ErrExpr)
		}
	}
}

// 12.2: where a ; must stand: behind a condition, as far as it goes on, be it a truth or not.
func TestMustBeSemi(t *testing.T) {
	for _, front := range []string{"start a: n0 < 1", "start a: (n0 < 1 or n1 < 2)", "start a: n0", "start a: 'x'", "next a: b.n0 < 1 and 'x' == type", first + "next b+: not 1 < 2"} {
		for _, wrong := range []string{"", " within 5", " next b: n0 < 1; within 5", " a", " 5", ":", ".", ")", "(", " 'x'", " ';'", "=", " not"} {
			wantWrong(t, front, wrong)
		}
	}
	wantWrong(t, "start a: n0 < 1 ", "< 2; within 5")
	wantWrong(t, "start a: n0 == 1 ", "!= 2 ;")
}

// 12.2: where a number must stand, and the end behind it.
func TestMustBeNumber(t *testing.T) {
	for _, front := range []string{"within", first + "within", first + second + "within", "next a: n0; within"} {
		for _, wrong := range []string{"", " a", " within", "+5", "-5", " start", "'5'", ";", ":", "(5)", " next b: n0 < 1; within 5"} {
			wantWrong(t, front, wrong)
		}
		for _, number := range []string{" 5", " 0", " 257", " 9223372036854775807"} {
			for _, wrong := range []string{";", " 5", " within 5", " a", "a", " start", "+", ":", "'x'", ".", " next b: n0 < 1; within 5"} {
				wantWrong(t, front+number, wrong)
			}
		}
	}
}

// 12.2: behind api.MaxStages stages another one, be it right or wrong itself.
func TestTooManyStages(t *testing.T) {
	front := ""
	for i, s := range row(api.MaxStages).Stages {
		front += fmt.Sprintf("%s %s: n%d < 1;", hows[s.How], s.Name, i%4)
	}
	if p, f := pattern.Read(front + " within 5"); len(p.Stages) != api.MaxStages || f != (api.Fault{}) {
		t.Error(p, f)
	}
	for _, behind := range []string{"next x: n0 < 1; within 5", "any x+: n0 < 1; any y: n0 < 1; within 5", "start", "then or", "next x: or", "start s0: n0 < 1", "", "x", "5", ";"} {
		wantWrong(t, front, behind)
	}
	alike := strings.Repeat("start a: n0;", api.MaxStages)
	wantFault(t, alike+"within 5", 0, api.ErrPattern)
	wantWrong(t, alike, "start a: n0; within 5")
	wantFault(t, strings.Repeat("next a: 1<2; ", 300)+"within 5", 13*api.MaxStages, api.ErrPattern)
}

// 12.2: {0, ErrPattern}, if what was read may not be, wherever it stands; but a token that may not
// stand there comes first.
func TestReadMayNot(t *testing.T) {
	for _, s := range []string{
		"within 5", "within 0", "start a: n0 < 1; within 0", "start a: n0 < 1; within 257", "start a: n0 < 1; within 4294967301", "start a: n0 < 1; within 9223372036854775807",
		"start a: n0; within 5", "start a: 'x'; within 5", "start a: n0 + 1; within 5", "start a: (type); within 5", first + "next b: n0; within 5",
		"next a: n0 < 1; within 5", "then a: n0 < 1; within 5", "any a: n0 < 1; within 5", first + "start b: n0 < 1; within 5", first + second + "start c: n0 < 1; within 5",
		first + "next a: n0 < 1; within 5", first + second + "any b: n0 < 1; within 5", first + second + "any a: n0 < 1; within 5",
		"start a: a.n0 < 1; within 5", "start a: b.n0 < 1; next b: n0 < 1; within 5", first + "next b: n0 < 1 or c.n0 < 1; then c: n0 < 1; within 5", first + "next b: b.n0 < 1; within 5",
	} {
		for _, blanks := range []string{"", " ", "\n  "} {
			wantFault(t, blanks+s, 0, api.ErrPattern)
			wantFault(t, blanks+s+" ;", len(blanks+s)+1, api.ErrPattern)
			wantFault(t, blanks+s+" within 5", len(blanks+s)+1, api.ErrPattern)
			wantFault(t, blanks+s[:strings.LastIndex(s, " ")], len(blanks)+strings.LastIndex(s, " "), api.ErrPattern)
		}
	}
}

// 12.2, R1: what Tokens refuses comes ahead of all else.
func TestReadTokens(t *testing.T) {
	wantFault(t, "A", 0, api.ErrToken)
	wantFault(t, "next A", 5, api.ErrToken)
	wantFault(t, "or or or A", 9, api.ErrToken)
	wantFault(t, "start a: n0 < 1; within 05", 24, api.ErrToken)
	wantFault(t, "start a: n0 and 1; within 5 !", 28, api.ErrToken)
	wantFault(t, "start a: type == 'x; within 5", 17, api.ErrToken)
	wantFault(t, "start "+strings.Repeat("a", api.MaxName+1)+": n0 < 1; within 5", 6, api.ErrToken)
	wantFault(t, "start a: n0 < 1; within 9223372036854775808", 24, api.ErrToken)
	wantFault(t, strings.Repeat(" ", api.MaxBytes+1), 0, api.ErrLong)
	wantFault(t, first+strings.Repeat("A", api.MaxBytes), 0, api.ErrLong)
	wantFault(t, strings.Repeat("; ", api.MaxItems)+";", 2*api.MaxItems, api.ErrLong)
	wantFault(t, strings.Repeat("; ", api.MaxItems), 0, api.ErrPattern)
	wantFault(t, "", 0, api.ErrPattern)
	wantFault(t, strings.Repeat(" ", api.MaxBytes), api.MaxBytes, api.ErrPattern)
	wantFault(t, "start"+strings.Repeat("\n", api.MaxBytes-5), api.MaxBytes, api.ErrPattern)
	wantFault(t, "start a:"+strings.Repeat("\n", api.MaxBytes-8), api.MaxBytes, api.ErrExpr)
}

// R4, R7: what is read shares no memory with the text, nor with what another call answered.
func TestReadIsNew(t *testing.T) {
	const s = "start abc: type == 'x y'; next def+: abc.n0 < n0 and text == 'q'; within 5"
	want := ofStages(5, stage(api.SStart, "abc", false, "type == 'x y'"), stage(api.SNext, "def", true, "abc.n0 < n0 and text == 'q'"))
	room := []byte(s)
	p, f := pattern.Read(unsafe.String(&room[0], len(room)))
	if string(room) != s || f != (api.Fault{}) {
		t.Fatalf("%q, %v", room, f)
	}
	q, _ := pattern.Read(s)
	for i := range room {
		room[i] = '#'
	}
	spoil(q)
	if !same(p, want) {
		t.Errorf("the pattern is %s now", told(p))
	}
	// one stage's spare room is no other one's
	for i, x := range p.Stages {
		spoilParts(x.Cond[len(x.Cond):cap(x.Cond)])
		if !same(p, want) {
			t.Errorf("behind the condition of stage %d stands another one: %s", i, told(p))
		}
	}
	wantRead(t, s, want)
}

func spoilParts(x []api.Part) {
	for i := range x {
		x[i] = api.Part{Kind: 99, S: "z"}
	}
}

func spoil(p api.Pattern) {
	for i, x := range p.Stages {
		spoilParts(x.Cond[:cap(x.Cond)])
		p.Stages[i] = api.Stage{Name: "z"}
	}
	for i := range p.Stages[:cap(p.Stages)] {
		p.Stages[:cap(p.Stages)][i] = api.Stage{Name: "z"}
	}
}
