package expr_test

import (
	"slices"
	"strings"
	"testing"
	"unsafe"

	"weaver/api"
	"weaver/expr"
	"weaver/token"
)

// wantRead: Read, and Parse of the tokens, up to the end.
func wantRead(t *testing.T, s string, want ...api.Part) {
	t.Helper()
	if x, f := expr.Read(s); !slices.Equal(x, want) || f != (api.Fault{}) {
		t.Errorf("Read(%.300q) = %.600s, %v, want %.600s", s, told(x), f, told(want))
	}
	l, _ := token.Tokens(s)
	wantParse(t, l, len(l)-1, want...)
}

func wantParse(t *testing.T, l []api.Token, end int, want ...api.Part) {
	t.Helper()
	if x, n, f := expr.Parse(l); !slices.Equal(x, want) || n != end || f != (api.Fault{}) {
		t.Errorf("Parse(%.600s) = %.600s, %d, %v, want %.600s, %d", told(l), told(x), n, f, told(want), end)
	}
}

// wantReadFault: R5 as well, nothing beside a fault.
func wantReadFault(t *testing.T, s string, at int, code api.Errno) {
	t.Helper()
	if x, f := expr.Read(s); len(x) != 0 || f != fault(at, code) {
		t.Errorf("Read(%.300q) = %.600s, %v, want %v", s, told(x), f, fault(at, code))
	}
}

func wantParseFault(t *testing.T, l []api.Token, at int, code api.Errno) {
	t.Helper()
	if x, n, f := expr.Parse(l); len(x) != 0 || n != 0 || f != fault(at, code) {
		t.Errorf("Parse(%.600s) = %.600s, %d, %v, want %v", told(l), told(x), n, f, fault(at, code))
	}
}

// wantFault: Parse tells the same fault as Read.
func wantFault(t *testing.T, s string, at int) {
	t.Helper()
	wantReadFault(t, s, at, api.ErrExpr)
	l, _ := token.Tokens(s)
	wantParseFault(t, l, at, api.ErrExpr)
}

// wantUpTo: Parse reads the text's front, up to that place, and Read tells what stands there.
func wantUpTo(t *testing.T, front, behind string) {
	t.Helper()
	want, f := expr.Read(front)
	if f != (api.Fault{}) {
		t.Fatalf("Read(%q): %v", front, f)
	}
	ahead, _ := token.Tokens(front)
	all, f := token.Tokens(front + behind)
	if f != (api.Fault{}) {
		t.Fatalf("Tokens(%q): %v", front+behind, f)
	}
	wantParse(t, all, len(ahead)-1, want...)
	wantReadFault(t, front+behind, all[len(ahead)-1].At, api.ErrExpr)
}

// The chapter's examples.
func TestReadExamples(t *testing.T) {
	wantRead(t, "n0 + 1 < a.n0 and type == 'x'",
		op(api.EAnd), op(api.ELess), op(api.EAdd), field("", 0), num(1), field("a", 0), op(api.EEqual), field("", 4), text("x"))
	wantUpTo(t, "n0 < 1 ", "< 2")
	wantReadFault(t, "n0 < 1 < 2", 7, api.ErrExpr)
	wantFault(t, "n0 and 1", 0)
}

// 11.2: each leaf, with brackets around it or none.
func TestReadLeaves(t *testing.T) {
	for s, want := range map[string]api.Part{
		"0": num(0), "12": num(12), "9223372036854775807": num(1<<63 - 1), "''": text(""), "'x y'": text("x y"), "'or'": text("or"), "'('": text("("),
		"n0": field("", 0), "n1": field("", 1), "n2": field("", 2), "n3": field("", 3), "type": field("", 4), "text": field("", 5),
		"a.n0": field("a", 0), "a . n1": field("a", 1), "b\n.\nn2": field("b", 2), "n4.n3": field("n4", 3), "orr.type": field("orr", 4), "start.text": field("start", 5),
	} {
		wantRead(t, s, want)
		wantRead(t, " \n"+s+"\n ", want)
		wantRead(t, "("+s+")", want)
		wantRead(t, "( ( ( "+s+" ) ) )", want)
	}
}

// 11.2: what binds least, and from the left.
func TestBinding(t *testing.T) {
	for s, same := range map[string]string{
		"1 - 2 - 3":                             "(1 - 2) - 3",
		"1 + 2 - 3 + 4":                         "((1 + 2) - 3) + 4",
		"1 * 2 * 3":                             "(1 * 2) * 3",
		"1 + 2 * 3":                             "1 + (2 * 3)",
		"1 * 2 + 3":                             "(1 * 2) + 3",
		"1 - 2 * 3 - 4":                         "(1 - (2 * 3)) - 4",
		"1 + 2 < 3 * 4":                         "(1 + 2) < (3 * 4)",
		"1 <= 2 - 3":                            "1 <= (2 - 3)",
		"not 1 < 2":                             "not (1 < 2)",
		"not 1 + 2 == 3":                        "not ((1 + 2) == 3)",
		"not not 1 < 2":                         "not (not (1 < 2))",
		"not 1 < 2 and 3 < 4":                   "(not (1 < 2)) and (3 < 4)",
		"1 < 2 and not 3 < 4":                   "(1 < 2) and (not (3 < 4))",
		"not 1 < 2 or not 3 < 4":                "(not (1 < 2)) or (not (3 < 4))",
		"1 < 2 and 3 < 4 and 5 < 6":             "((1 < 2) and (3 < 4)) and (5 < 6)",
		"1 < 2 or 3 < 4 or 5 < 6":               "((1 < 2) or (3 < 4)) or (5 < 6)",
		"1 < 2 or 3 < 4 and 5 < 6":              "(1 < 2) or ((3 < 4) and (5 < 6))",
		"1 < 2 and 3 < 4 or 5 < 6":              "((1 < 2) and (3 < 4)) or (5 < 6)",
		"1 < 2 or 3 < 4 and 5 < 6 or 7 < 8":     "((1 < 2) or ((3 < 4) and (5 < 6))) or (7 < 8)",
		"not (1 < 2 or 3 < 4) and not 'x'=='y'": "(not ((1 < 2) or (3 < 4))) and (not ('x' == 'y'))",
		"(1 + 2) * 3":                           "((1 + 2)) * ((3))",
		"1 - (2 - 3)":                           "(1) - ((2 - (3)))",
		"1+2*3<4and(5==6)or not'x'!=type":       "(((1 + (2 * 3)) < 4) and (5 == 6)) or (not ('x' != type))",
	} {
		wantRead(t, s, mustRead(t, same)...)
	}
	wantRead(t, "1 - 2 - 3", op(api.ESub), op(api.ESub), num(1), num(2), num(3))
	wantRead(t, "1 - (2 - 3)", op(api.ESub), num(1), op(api.ESub), num(2), num(3))
	wantRead(t, "1 + 2 * 3", op(api.EAdd), num(1), op(api.EMul), num(2), num(3))
	wantRead(t, "not 1 == 2 or 3 != 4", op(api.EOr), op(api.ENot), op(api.EEqual), num(1), num(2), op(api.EUnlike), num(3), num(4))
	wantRead(t, "1 <= 2 and 3 < 4", op(api.EAnd), op(api.EAtMost), num(1), num(2), op(api.ELess), num(3), num(4))
}

// 11.2: at the first token, behind each operation, not and ( an expression must come.
func TestMustCome(t *testing.T) {
	for _, wrong := range []string{"", ")", "or", "and", "+", "-", "*", "<", "<=", "==", "!=", ":", ";", ".", "=", "or 1", ") 1", "- 1", ". n0"} {
		for _, ahead := range []string{
			"", " ", "\n\n ", "( ", "(( ", "not ", "not not ", "not ( ", "1 + ", "1 - ", "1 * ", "1 < ", "1 <= ", "1 == ", "1 != ", "1 < 2 and ", "1 < 2 or ",
			"1 + 2 * ", "1 < 2 + ", "( 1 + 2 ) - ( ", "1 < 2 and not ", "( not ( 1 < 2 and ( ", "a.n0 * ", "'x' == ", "'x' + ", "1 and ",
		} {
			wantFault(t, ahead+wrong, len(ahead))
		}
	}
	for _, ahead := range []string{"1 + ", "1 - ", "1 * ", "1 < ", "1 <= ", "1 == ", "1 != ", "1 < 2 + ", "not 1 < ", "( 1 * "} {
		wantFault(t, ahead+"not 1 < 2", len(ahead))
		wantFault(t, ahead+"not", len(ahead))
	}
}

// 11.2: behind a stage's name a point must come, and a field behind that.
func TestStageMustGoOn(t *testing.T) {
	for _, ahead := range []string{"", "( ", "not ", "1 + ", "1 < 2 or ", "1 < a . n0 * "} {
		for _, name := range someNames {
			for _, wrong := range []string{"", "1", "'.'", "'x'", "b", "n0", "or", "<", "<=", "(", ")", "+ 1", "== 1", ": n0"} {
				wantFault(t, ahead+name+" "+wrong, len(ahead+name+" "))
			}
			for _, wrong := range []string{"", "1", "'n0'", "'type'", "a", "n4", "n00", "types", "or", "and", "not", ".", "(", ". n0", "( n0 )", "start . n0"} {
				wantFault(t, ahead+name+" . "+wrong, len(ahead+name+" . "))
				wantFault(t, ahead+name+"."+wrong, len(ahead+name+"."))
			}
		}
	}
}

// 11.2: a field's word is no stage's name, also ahead of a point.
func TestFieldsAreNoStages(t *testing.T) {
	for _, s := range []string{"n0", "n1", "n2", "n3", "type", "text"} {
		wantUpTo(t, s, ".n0")
		wantUpTo(t, "a."+s, ".n0")
		wantUpTo(t, s+" ", "a.n0")
		wantFault(t, "("+s+".n0)", 1+len(s))
	}
	for _, s := range []string{"or", "and"} {
		wantFault(t, s+".n0", 0)
		wantFault(t, "not "+s+".n0", 4)
	}
	wantFault(t, "not.n0", 3)
}

// 11.2: brackets are closed where the expression in them has ended.
func TestBrackets(t *testing.T) {
	wantFault(t, "(1", 2)
	wantFault(t, "((1)", 4)
	wantFault(t, "(1 < 2", 6)
	wantFault(t, "(1 < 2 < 3)", 7)
	wantFault(t, "(1 2)", 3)
	wantFault(t, "(1 'x')", 3)
	wantFault(t, "(1 + 2 ;", 7)
	wantFault(t, "(1 not 2)", 3)
	wantFault(t, "(1 ( 2 ))", 3)
	wantFault(t, "(1 = 2)", 3)
	wantFault(t, "(1 ')'", 3)
	wantFault(t, "()", 1)
	wantFault(t, "not ()", 5)
	wantFault(t, "(1 == 2) and ((3 == 4) or (5 == 6)", 34)
	wantUpTo(t, "1", ")")
	wantUpTo(t, "(1)", ")")
	wantUpTo(t, "(1) ", "(2)")
}

// 11.2, 11.3: what is read goes as far as the grammar does; Read wants the end there.
func TestReadUpTo(t *testing.T) {
	for _, behind := range []string{";", ":", ")", "(", ".", "=", "= 1", "1", "'x'", "n0", "a", "a.n0", "not", "not 1 < 2", "; x", "within 5", "'or' 1 < 2", "'<' 1", "(1"} {
		for _, front := range []string{"1 ", "n0 ", "a.type ", "'x' ", "( 1 ) ", "1 + 2 ", "1 < 2 ", "not 1 < 2 ", "1 < 2 and 3 < 4 ", "1 < 2 or 3 < 4 ", "( 1 < 2 )\n"} {
			wantUpTo(t, front, behind)
		}
	}
	for _, a := range []string{"<", "<=", "==", "!="} {
		for _, b := range []string{"<", "<=", "==", "!="} {
			wantUpTo(t, "1 "+a+" 2 ", b+" 3")
			wantUpTo(t, "1 "+a+" 2 + 3 ", b+" 3")
			wantUpTo(t, "not 1 "+a+" 2 ", b+" 3")
			wantUpTo(t, "1 "+a+" 2 and 3 "+b+" 4 ", a+" 5")
			wantUpTo(t, "1 "+a+" 2 ", b)
			wantFault(t, "(1 "+a+" 2) "+b+" 3 and", len("(1 "+a+" 2) "+b+" 3 and"))
			wantFault(t, "1 + 2 "+a+" (3 "+b+" 4)", 0)
		}
	}
	l, _ := token.Tokens("1 == n0 ; )")
	wantParse(t, l, 3, op(api.EEqual), num(1), field("", 0))
	wantParse(t, l[2:], 1, field("", 0))
	wantParseFault(t, l[1:], l[1].At, api.ErrExpr)
	wantParseFault(t, l[3:], l[3].At, api.ErrExpr)
	wantParseFault(t, l[5:], l[5].At, api.ErrExpr)
}

// 11.2, 11.3: {0, ErrExpr} of an expression that may not be, wherever it stands, ahead of what
// stands behind it; but a token that may not stand there comes first.
func TestReadMayNot(t *testing.T) {
	for _, s := range []string{
		"n0 and 1", "1 + 'x'", "'x' * 1", "1 - type", "'x' < 'y'", "type <= text", "1 == 'x'", "a.type != a.n0", "not 1", "not 'x'", "not n0 + 1",
		"1 < 2 and 3", "'x' or 1 < 2", "(1 < 2) + 3", "(1 < 2) == (3 < 4)", "(1 < 2) < 3", "1 * (not 1 < 2)", "not (1 < 2 and n0)", "(1 < 2) != 'x'",
	} {
		for _, blank := range []string{"", " ", "\n  "} {
			wantFault(t, blank+s, 0)
			wantFault(t, blank+"("+s+")", 0)
			for _, behind := range []string{")", ";", " 1", " n0", "(", " not 1 < 2", "=1"} {
				wantFault(t, blank+s+behind, 0)
			}
			for _, behind := range []string{" +", " and", " or not", " * (", " or ("} {
				wantFault(t, blank+s+behind, len(blank+s+behind))
			}
			wantFault(t, blank+"("+s, len(blank+s)+1)
		}
	}
}

// 11.2: expressions that are too great, by what is read of them.
func TestReadGreat(t *testing.T) {
	flat, _ := expr.Write(sums(100).parts())
	more, _ := expr.Write(sums(50).parts())
	wantRead(t, flat, sums(100).parts()...)
	wantFault(t, flat+" + 1", 0)
	wantRead(t, more+" < "+more, of(api.ELess, sums(50), sums(50)).parts()...)
	wantRead(t, "not "+more+" < "+more, of(api.ENot, of(api.ELess, sums(50), sums(50))).parts()...)
	wantFault(t, "not "+more+" < 1 + "+more, 0)
	wantUpTo(t, flat+" ", "1")
	row := strings.Repeat("1+", api.MaxDepth-1) + "1"
	x := leaf(num(1))
	for range api.MaxDepth - 1 {
		x = of(api.EAdd, x, leaf(num(1)))
	}
	wantRead(t, row, x.parts()...)
	wantRead(t, strings.Repeat("(", 200)+row+strings.Repeat(")", 200), x.parts()...)
	wantFault(t, row+"+1", 0)
	wantFault(t, "1+("+row+")", 0)
	wantFault(t, strings.Repeat("not ", api.MaxDepth-1)+"1 < 2", 0)
	wantRead(t, strings.Repeat("not ", api.MaxDepth-2)+"1 < 2", join(repeat(op(api.ENot), api.MaxDepth-2), less(num(1), num(2)))...)
	for _, s := range []string{"+1", "-1", "*1", "+n0"} {
		wantFault(t, "1"+strings.Repeat(s, 2047), 0)
		wantFault(t, "1"+strings.Repeat(s, 2047)+";", 0)
		wantFault(t, "1"+strings.Repeat(s, 2047)+"+", 1+2047*len(s)+1)
	}
	wantFault(t, "1<2"+strings.Repeat(" or 1<2", 1023), 0)
	wantFault(t, "1<2"+strings.Repeat(" and 1<2 or 3<4", 511), 0)
}

// 11.2: brackets and nots that lie up to 200 deep in one another, in whatever order.
func TestNested(t *testing.T) {
	for _, n := range []int{199, 200, 201, 202, 300, 1000, 2000} {
		for _, ones := range [][]string{{"("}, {"not "}, {"(", "not "}, {"not ", "("}, {"(", "(", "not "}} {
			var ahead, closed strings.Builder
			at := 0 // of what stands behind the 201st
			for i := range n {
				one := ones[i%len(ones)]
				ahead.WriteString(one)
				if one == "(" {
					closed.WriteString(")")
				}
				if i == 200 {
					at = ahead.Len()
				}
			}
			s := ahead.String() + "1<2" + closed.String()
			if n > 200 {
				wantFault(t, s, at)
				wantFault(t, ahead.String(), at)
				wantFault(t, ahead.String()+"or", at)
			} else if len(ones) == 1 && ones[0] == "(" {
				wantRead(t, s, less(num(1), num(2))...)
			} else {
				wantFault(t, s, 0)
			}
		}
	}
	deep, shut := strings.Repeat("(", 200), strings.Repeat(")", 200)
	wantFault(t, deep+"not 1<2"+shut, 204)
	wantFault(t, deep+"(1)"+shut+")", 201)
	wantFault(t, deep+"1<2 and not  1<2"+shut, 213)
	wantFault(t, deep+"1+ (  1)"+shut, 206)
	wantFault(t, "1<2 and not "+deep+"1<2"+shut, 12+200)
	wantFault(t, "not 1 < "+deep+"2"+shut, 8+200)
	wantFault(t, strings.Repeat("not ", 200)+"1 < (2)", 805)
}

// 11.2: those that have ended do not count.
func TestNestedAgain(t *testing.T) {
	deep, shut := strings.Repeat("(", 200), strings.Repeat(")", 200)
	wantRead(t, deep+"1"+shut+"+"+deep+"2"+shut, op(api.EAdd), num(1), num(2))
	wantRead(t, "not 1 < 2 and "+deep+"1<2"+shut+" or not ("+deep[2:]+"1<2"+shut[2:]+")",
		mustRead(t, "(not 1 < 2) and 1 < 2 or not 1 < 2")...)
	wantRead(t, "1"+strings.Repeat("+(1)", 31), mustRead(t, "1"+strings.Repeat("+1", 31))...)
	wantFault(t, "1"+strings.Repeat("+(1)", 300), 0)
	wantFault(t, "not 1<2"+strings.Repeat(" and not 1<2", 300), 0)
	wantFault(t, deep+"1"+shut+"+"+deep+"(2"+shut+")", 200+1+200+1+200+1)
}

// 11.3: what Tokens refuses, with its places.
func TestReadTokens(t *testing.T) {
	wantReadFault(t, "A", 0, api.ErrToken)
	wantReadFault(t, "n0 < 07", 5, api.ErrToken)
	wantReadFault(t, "or or A", 6, api.ErrToken)
	wantReadFault(t, "1 < 2 ; !", 8, api.ErrToken)
	wantReadFault(t, "type == 'x", 8, api.ErrToken)
	wantReadFault(t, strings.Repeat("a", api.MaxName+1)+".n0", 0, api.ErrToken)
	wantReadFault(t, "1 + 9223372036854775808", 4, api.ErrToken)
	wantReadFault(t, strings.Repeat("(", 300)+" A", 301, api.ErrToken)
	wantReadFault(t, strings.Repeat(" ", api.MaxBytes+1), 0, api.ErrLong)
	wantReadFault(t, "1 < 2"+strings.Repeat(" ", api.MaxBytes), 0, api.ErrLong)
	wantReadFault(t, strings.Repeat("1 ", api.MaxItems)+"1", 2*api.MaxItems, api.ErrLong)
	wantReadFault(t, strings.Repeat("1 ", api.MaxItems), 2, api.ErrExpr)
	wantRead(t, "1"+strings.Repeat(" ", api.MaxBytes-1), num(1))
	wantRead(t, strings.Repeat("\n", api.MaxBytes-1)+"1", num(1))
	wantFault(t, strings.Repeat(" ", api.MaxBytes), api.MaxBytes)
	wantFault(t, "1 +"+strings.Repeat(" ", api.MaxBytes-3), api.MaxBytes)
}

// R4, R7: parts share no memory with the tokens or the text, nor with those of another call, and
// what was handed in stays as it was.
func TestReadIsNew(t *testing.T) {
	const s = "abc.n0 < 1 and type == 'x y'"
	room := []byte(s)
	l := []api.Token{}
	tokens, _ := token.Tokens(s)
	for _, x := range tokens {
		if x.S != "" {
			x.S = unsafe.String(&room[strings.Index(s, x.S)], len(x.S))
		}
		l = append(l, x)
	}
	l = append(l, api.Token{Kind: 9})
	want := mustRead(t, s)
	a, _, _ := expr.Parse(l[:len(l)-1])
	b, _, _ := expr.Parse(l[:len(l)-1])
	c, _ := expr.Read(unsafe.String(&room[0], len(room)))
	if string(room) != s || !slices.Equal(l[:len(l)-1], tokens) || l[len(l)-1] != (api.Token{Kind: 9}) {
		t.Errorf("the tokens are %v now", l)
	}
	for i := range room {
		room[i] = '#'
	}
	for i := range b[:cap(b)] {
		b[:cap(b)][i] = api.Part{Kind: 9, S: "z"}
	}
	if !slices.Equal(a, want) || !slices.Equal(c, want) {
		t.Errorf("the parts are %v and %v now, want %v", a, c, want)
	}
	wantRead(t, s, want...)
}
