package expr_test

import (
	"slices"
	"testing"
	"unsafe"

	"weaver/api"
	"weaver/expr"
)

func wantWrite(t *testing.T, want string, x ...api.Part) {
	t.Helper()
	if s, e := expr.Write(x); s != want || e != api.OK {
		t.Errorf("Write(%v) = %q, %d, want %q", x, s, e, want)
	}
}

// The chapter's example.
func TestWriteExample(t *testing.T) {
	wantWrite(t, "( ( n0 + 1 ) < a . n0 ) and ( type == 'x' )",
		op(api.EAnd), op(api.ELess), op(api.EAdd), field("", 0), num(1), field("a", 0), op(api.EEqual), field("", 4), text("x"))
}

// 11.1: each leaf, and each operation as the outermost and inside another one.
func TestWrite(t *testing.T) {
	wantWrite(t, "0", num(0))
	wantWrite(t, "9223372036854775807", num(1<<63-1))
	wantWrite(t, "''", text(""))
	wantWrite(t, "' x  y\t'", text(" x  y\t"))
	for f, s := range []string{"n0", "n1", "n2", "n3", "type", "text"} {
		wantWrite(t, s, field("", f))
		wantWrite(t, "b7 . "+s, field("b7", f))
	}
	for _, k := range []int{api.EAdd, api.ESub, api.EMul} {
		s := signOf[k]
		wantWrite(t, "1 "+s+" 2", op(k), num(1), num(2))
		wantWrite(t, "( 1 "+s+" 2 ) "+s+" 3", op(k), op(k), num(1), num(2), num(3))
		wantWrite(t, "1 "+s+" ( 2 "+s+" 3 )", op(k), num(1), op(k), num(2), num(3))
		wantWrite(t, "( 1 "+s+" 2 ) == ( 3 "+s+" 4 )", op(api.EEqual), op(k), num(1), num(2), op(k), num(3), num(4))
	}
	for _, k := range []int{api.ELess, api.EAtMost, api.EEqual, api.EUnlike} {
		s := signOf[k]
		wantWrite(t, "1 "+s+" 2", op(k), num(1), num(2))
		wantWrite(t, "not ( 1 "+s+" 2 )", op(api.ENot), op(k), num(1), num(2))
		wantWrite(t, "( not ( 1 "+s+" 2 ) ) or ( 3 "+s+" 4 )", op(api.EOr), op(api.ENot), op(k), num(1), num(2), op(k), num(3), num(4))
		wantWrite(t, "( 1 "+s+" 2 ) and ( not ( 3 "+s+" 4 ) )", op(api.EAnd), op(k), num(1), num(2), op(api.ENot), op(k), num(3), num(4))
	}
	wantWrite(t, "not ( not ( a . type != 'q' ) )", op(api.ENot), op(api.ENot), op(api.EUnlike), field("a", 4), text("q"))
}

// 11.1: the stages' names, each once, in the order in which they come.
func TestStages(t *testing.T) {
	for s, want := range map[string][]string{
		"1": nil, "n0 < 1": nil, "'a.n0' == type": nil, "a.n0": {"a"}, "b.text": {"b"},
		"a.n0 + b.n0": {"a", "b"}, "b.n0 + a.n0": {"b", "a"}, "a.n0 + a.n0": {"a"}, "a.n0 + a.n1 * n2": {"a"},
		"c.n0 < b.n0 and (a.type == b.type or not c.text != 'b')": {"c", "b", "a"},
		"1 < z.n0 * (y.n0 - z.n3) or y.type == x.type":            {"z", "y", "x"},
		"a1.n0 + a.n0 + a10.n0 + a1.n1":                           {"a1", "a", "a10"},
	} {
		x, f := expr.Read(s)
		if l, e := expr.Stages(x); f != (api.Fault{}) || !slices.Equal(l, want) || e != api.OK {
			t.Errorf("Stages of %q: %v, %v, %d, want %v", s, f, l, e, want)
		}
	}
}

// R4: what is written, and the names of stages, share no memory with the parts, which stay as they
// are, nor with another answer; what lies behind the parts is not asked for.
func TestWriteIsNew(t *testing.T) {
	room := []byte("zabcz")
	s := unsafe.String(&room[1], 3)
	for _, p := range []api.Part{text(s), field(s, 0), field(s, 5), num(7), field("", 4)} {
		copy(room, "zabcz")
		x := list(p, op(99))
		was := slices.Clone(x)
		one, e := expr.Write(x[:1])
		two, _ := expr.Write(x[:1])
		names, _ := expr.Stages(x[:1])
		again, _ := expr.Stages(x[:1])
		if e != api.OK || !slices.Equal(x, was) || string(room) != "zabcz" {
			t.Errorf("Write(%v) = %q, %d, and the parts are %v now", was, one, e, x)
		}
		if one != two || unsafe.StringData(one) == unsafe.StringData(two) {
			t.Errorf("%q and %q share memory, or are not the same", one, two)
		}
		want, all := string([]byte(one)), len(names)
		copy(room, "#####")
		if one != want || all > 0 && (names[0] != "abc" || again[0] != "abc" || unsafe.StringData(names[0]) == unsafe.StringData(again[0])) {
			t.Errorf("%q is %q now, the stages are %v and %v", want, one, names, again)
		}
	}
}
