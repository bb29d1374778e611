package pattern_test

import (
	"strings"
	"testing"
	"unsafe"

	"weaver/api"
	"weaver/expr"
	"weaver/pattern"
)

func wantWrite(t *testing.T, want string, p api.Pattern) {
	t.Helper()
	if s, e := pattern.Write(p); s != want || e != api.OK {
		t.Errorf("Write(%.600s) = %.300q, %d, want %.300q", told(p), s, e, want)
	}
	wantRead(t, want, p)
}

// 12.1: each word and sign as it is written, and the chapter's example.
func TestWrite(t *testing.T) {
	a := stage(api.SStart, "a", false, "type == 'x'")
	wantWrite(t, "start a : type == 'x' ; next b + : a . n0 < n0 ; within 5", ofStages(5, a, stage(api.SNext, "b", true, "a.n0 < n0")))
	wantWrite(t, "start a : type == 'x' ; within 1", ofStages(1, a))
	wantWrite(t, "start a : type == 'x' ; within 256", ofStages(256, a))
	wantWrite(t, "start a + : not ( ( n0 + 1 ) < 2 ) ; within 10", ofStages(10, stage(api.SStart, "a", true, "not n0 + 1 < 2")))
	wantWrite(t, "start a : type == 'x' ; then b : text != ' ;  ' ; any c + : ( a . n0 < b . n3 ) and ( a . text == '' ) ; within 77",
		ofStages(77, a, stage(api.SThen, "b", false, "text != ' ;  '"), stage(api.SAny, "c", true, "a.n0 < b.n3 and a.text == ''")))
	wantWrite(t, "start within : 1 < 2 ; next start : 1 < 2 ; then next : 1 < 2 ; any then + : 1 < 2 ; any any : 1 < 2 ; within 6",
		ofStages(6, stage(0, "within", false, "1<2"), stage(1, "start", false, "1<2"), stage(2, "next", false, "1<2"), stage(3, "then", true, "1<2"), stage(3, "any", false, "1<2")))
}

// sum is of so many leaves, as flat as can be, the first ones of them without a stage.
func sum(leaves, short int) []api.Part {
	if leaves == 1 {
		p := api.Part{Kind: api.EField, Stage: "a"}
		if short > 0 {
			p.Stage = ""
		}
		return []api.Part{p}
	}
	half := leaves / 2
	x := append([]api.Part{{Kind: api.EAdd}}, sum(half, min(short, half))...)
	return append(x, sum(leaves-half, max(0, short-half))...)
}

func below(leaves, short int) []api.Part {
	x := append([]api.Part{{Kind: api.ELess}}, sum(leaves, short)...)
	return append(x, api.Part{Kind: api.ENum, N: 1})
}

// great is a pattern whose text has so many tokens.
func great(t *testing.T, tokens int) api.Pattern {
	p := ofStages(9, stage(api.SStart, "a", false, "n0 < 1"))
	for i := range 6 {
		p.Stages = append(p.Stages, api.Stage{Name: string("bcdefg"[i]), How: api.SThen, Cond: below(99, 0)})
	}
	left := tokens - len(strings.Fields(modelWrite(p)))
	for leaves := 3; leaves <= 99; leaves++ {
		for short := range 3 {
			for many := range 2 {
				last := api.Stage{Name: "h", How: api.SAny, Many: many == 1, Cond: below(leaves, short)}
				if len(strings.Fields(modelWrite(ofStages(9, last))))-2 == left {
					p.Stages = append(p.Stages, last)
					return p
				}
			}
		}
	}
	t.Fatal("no pattern has", tokens)
	return p
}

// 12.1: at most api.MaxItems tokens, and what Check refuses ahead of that.
func TestWriteLong(t *testing.T) {
	for _, n := range []int{4000, 4090, 4091, 4092, 4093, 4094, 4095, api.MaxItems, api.MaxItems + 1, 4098, 4099, 4100, 4101, 4102, 4103, 4150, 4180} {
		p := great(t, n)
		text := modelWrite(p)
		if k := len(strings.Fields(text)); k != n {
			t.Fatal(k, n)
		}
		if n <= api.MaxItems {
			wantMay(t, p)
			wantWrite(t, text, p)
			continue
		}
		if i, e := pattern.Check(p); i != 0 || e != api.OK {
			t.Errorf("Check of %d tokens: %d, %d", n, i, e)
		}
		if s, e := pattern.Write(p); s != "" || e != api.ErrLong {
			t.Errorf("Write of %d tokens: %.300q, %d", n, s, e)
		}
		if _, f := pattern.Read(text); f.Code != api.ErrLong {
			t.Errorf("Read of %d tokens: %v", n, f)
		}
		p.Within = 0
		wantMayNot(t, 8, p)
		p.Stages[3].How = 9
		wantMayNot(t, 3, p)
	}
}

// 12.1, 12.3: the longest text that patterns come to in bytes is written whole.
func TestWriteLongest(t *testing.T) {
	full := api.Part{Kind: api.EText, S: strings.Repeat("x", api.MaxText)}
	var p api.Pattern
	for i := range api.MaxStages {
		p.Stages = append(p.Stages, api.Stage{Name: strings.Repeat(string("abcdefgh"[i]), api.MaxName), How: min(i, api.SNext), Many: true, Cond: alike(full, 50)})
	}
	p.Within = api.MaxWindow
	wantMay(t, p)
	if s, e := pattern.Write(p); len(s) < 200000 || len(s) > api.MaxBytes || e != api.OK {
		t.Error(len(s), e)
	}
}

// alike is so many pairs of the text that are unlike, all of them.
func alike(text api.Part, pairs int) []api.Part {
	if pairs == 1 {
		return []api.Part{{Kind: api.EUnlike}, text, text}
	}
	x := append([]api.Part{{Kind: api.EAnd}}, alike(text, pairs/2)...)
	return append(x, alike(text, pairs-pairs/2)...)
}

// R4, R7: what is written shares no memory with the pattern, nor with what was written ahead.
func TestWriteIsNew(t *testing.T) {
	room := []byte("zabcz")
	s := unsafe.String(&room[1], 3)
	p := ofStages(5, api.Stage{Name: s, Cond: []api.Part{{Kind: api.EEqual}, {Kind: api.EField, Field: api.FType}, {Kind: api.EText, S: s}}})
	one, e := pattern.Write(p)
	two, _ := pattern.Write(p)
	if e != api.OK || one != two || unsafe.StringData(one) == unsafe.StringData(two) || string(room) != "zabcz" {
		t.Errorf("%q and %q, %d, of %q", one, two, e, room)
	}
	copy(room, "#####")
	if one != "start abc : type == 'abc' ; within 5" {
		t.Errorf("%q now", one)
	}
}

// 12.1: conditions stand as chapter 11 writes them.
func TestWriteConditions(t *testing.T) {
	for _, s := range []string{"n0 < 1", "n0 + 1 < n1 and type == 'x'", "not not 1 <= 2", "(n0 < 1 or n1 < 2) and n2 - 3 * n3 != 9223372036854775807", "'\xff é \"' == text"} {
		c, _ := expr.Write(cond(s))
		wantWrite(t, "start a : "+c+" ; within 5", ofStages(5, stage(api.SStart, "a", false, s)))
	}
}
