package pattern_test

import (
	"fmt"
	"math/rand"
	"slices"
	"strconv"
	"strings"
	"testing"

	"weaver/api"
	"weaver/pattern"
)

// wantModel holds Read of a text against the model, and what it read against 12.3.
func wantModel(t *testing.T, s string) bool {
	t.Helper()
	want, code := modelRead(s)
	p, f := pattern.Read(s)
	if !same(p, want) || f != code {
		t.Fatalf("Read(%q) = %s, %v, want %s, %v", s, told(p), f, told(want), code)
	}
	if f.Code == api.OK {
		wantMay(t, p)
		wantReckoned(t, p)
	}
	return f.Code == api.OK
}

var pieces = []string{"start", "next", "any", "within", "a", "b", "or", "+", ":", ";", "n0 < 1", "n0", "5"}

// 12.2, P1: all rows of up to five pieces, alone and behind what is right.
func TestAllShortRows(t *testing.T) {
	for _, front := range []string{"", "start a : n0 < 1 ;", "start b : n0 < 1 ; then a + : b.n0 < 1"} {
		rows, longest := []string{front}, 5
		if front != "" {
			longest = 4
		}
		for range longest {
			var longer []string
			for _, s := range rows {
				for _, p := range pieces {
					longer = append(longer, s+" "+p)
				}
			}
			for _, s := range longer {
				wantModel(t, s)
			}
			rows = longer
		}
	}
}

// 12.2: texts that are right but for one piece, which is left out, doubled, changed or put in
// between, and but for two of these.
func TestNearlyRight(t *testing.T) {
	some := append([]string{"then", "'a'", "'start'", "(", ")", ".", "<", "0", "256", "257", "a . n0 < 1", "b . n0 == 2", "c . n0", "not", "type", "'x' == type", "1 +"}, pieces...)
	right := strings.Split("start|a|:|n0 < 1|;|next|b|+|:|a . n0 < n0|;|any|c|:|b . n1 <= a . n2 or n0 < 1|;|within|5", "|")
	changed := func(l []string, i int, change, piece string) []string {
		switch change {
		case "out":
			return slices.Delete(slices.Clone(l), i, i+1)
		case "other":
			return slices.Replace(slices.Clone(l), i, i+1, piece)
		}
		return slices.Insert(slices.Clone(l), i, piece)
	}
	ok := 0
	for i := range right {
		for _, change := range []string{"out", "other", "in"} {
			for _, piece := range some {
				l := changed(right, i, change, piece)
				if wantModel(t, strings.Join(l, " ")) {
					ok++
				}
				for j := range l {
					wantModel(t, strings.Join(changed(l, j, "other", some[(i+7*j)%len(some)]), "\n"))
					wantModel(t, strings.Join(changed(l, j, "out", ""), " "))
				}
			}
		}
	}
	if ok < 30 {
		t.Error("few were right:", ok)
	}
}

// someCondition asks for the stages of these names, among others at times.
func someCondition(r *rand.Rand, names []string, deep int) string {
	number := func() string {
		switch r.Intn(4) {
		case 0:
			return strconv.FormatInt(int64(r.Uint64()>>(1+r.Intn(63))), 10)
		case 1:
			return fmt.Sprint("n", r.Intn(4))
		}
		if len(names) == 0 {
			return fmt.Sprintf("(n%d * %d)", r.Intn(4), r.Intn(10))
		}
		return fmt.Sprint(pick(r, names), ".n", r.Intn(4))
	}
	switch k := r.Intn(6); {
	case deep > 0 && k == 0:
		return "not (" + someCondition(r, names, deep-1) + ")"
	case deep > 0 && k < 3:
		return "(" + someCondition(r, names, deep-1) + pick(r, []string{" and ", " or "}) + someCondition(r, names, deep-1) + ")"
	case k == 3:
		return pick(r, []string{"type", "text"}) + pick(r, []string{"==", "!="}) + pick(r, []string{"type", "''", "'x y'", "';'", "'\xff'"})
	}
	return number() + pick(r, []string{" < ", " <= ", " == ", " != ", " + 1 < ", " - 2 * 3 == "}) + number()
}

var someNames = []string{"a", "b", "c9", "start", "next", "within", "n4", "orr", "types", "abcdefghijklmnopqrstuvwxyz012345"}

// somePattern may be.
func somePattern(r *rand.Rand) api.Pattern {
	names := slices.Clone(someNames)
	r.Shuffle(len(names), func(i, j int) { names[i], names[j] = names[j], names[i] })
	p := api.Pattern{Within: 1 + r.Intn(api.MaxWindow)}
	for i := range 1 + r.Intn(api.MaxStages) {
		how := 1 + r.Intn(3)
		if i == 0 {
			how = api.SStart
		}
		p.Stages = append(p.Stages, stage(how, names[i], r.Intn(2) == 0, someCondition(r, names[:i], r.Intn(4))))
	}
	return p
}

// 12.1, 12.3: random patterns that may be.
func TestRandomPatterns(t *testing.T) {
	for seed := range int64(6000) {
		p := somePattern(rand.New(rand.NewSource(seed)))
		was := deepCopy(p)
		wantMay(t, p)
		wantReckoned(t, p)
		if !same(p, was) {
			t.Fatalf("the pattern is %s now, was %s", told(p), told(was))
		}
	}
}

// spoilOne changes something of a pattern, that may be as good.
func spoilOne(r *rand.Rand, p *api.Pattern) {
	if len(p.Stages) == 0 {
		p.Within = r.Intn(4)
		return
	}
	s := &p.Stages[r.Intn(len(p.Stages))]
	switch r.Intn(8) {
	case 0:
		s.Name = pick(r, append([]string{"", "or", "type", "A", "a b", strings.Repeat("z", 33)}, someNames...))
	case 1:
		s.How = pick(r, []int{-1, 0, 1, 2, 3, 4, 1 << 40})
	case 2:
		s.Cond = cond(someCondition(r, append([]string{"z"}, someNames...), 2))
	case 3:
		s.Cond = s.Cond[:r.Intn(len(s.Cond)+1)]
	case 4:
		p.Within = pick(r, []int{-1, 0, 1, 256, 257, 1<<63 - 1, -1 << 63})
	case 5:
		p.Stages = slices.Insert(p.Stages, r.Intn(len(p.Stages)+1), *s)
	case 6:
		p.Stages = p.Stages[r.Intn(len(p.Stages)):]
	case 7:
		if len(s.Cond) > 0 {
			s.Cond[r.Intn(len(s.Cond))] = api.Part{Kind: r.Intn(16) - 1, N: int64(r.Intn(3) - 1), S: pick(r, []string{"", "", "x"}), Stage: pick(r, []string{"", "", "a", "b"}), Field: r.Intn(8) - 1}
		}
	}
}

// 12.1, P1: random patterns that may be or not.
func TestRandomWrong(t *testing.T) {
	may := 0
	for seed := range int64(30000) {
		r := rand.New(rand.NewSource(seed))
		p := somePattern(r)
		for range 1 + r.Intn(3) {
			spoilOne(r, &p)
		}
		n, e := modelCheck(p)
		if e != api.OK {
			wantMayNot(t, n, p)
			continue
		}
		may++
		wantMay(t, p)
		wantReckoned(t, p)
	}
	if may < 2500 {
		t.Error("few may be:", may)
	}
}

// 12.2, 12.3, P1: texts of patterns with something wrong in them, or other blanks.
func TestRandomTexts(t *testing.T) {
	right := 0
	for seed := range int64(10000) {
		r := rand.New(rand.NewSource(seed))
		b := []byte(modelWrite(somePattern(r)))
		for range r.Intn(4) {
			i := r.Intn(len(b)) // what is cut off leaves one byte at least
			switch r.Intn(4) {
			case 0:
				b[i] = pick(r, []byte(" \n+:;.()<=!'a0n5"))
			case 1:
				b = slices.Insert(b, i, pick(r, []byte(" \n+:;.()<=!'a0n5")))
			case 2:
				b = slices.Delete(b, i, min(i+1, len(b)-1))
			case 3:
				b = b[:i+1]
			}
		}
		if wantModel(t, string(b)) {
			right++
		}
	}
	if right < 2000 {
		t.Error("few were right:", right)
	}
}
