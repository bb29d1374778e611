package sink_test

import (
	"testing"
	"unsafe"

	"weaver/api"
	"weaver/disk"
)

// R4: a match that is written over behind the call is put as it was, and is not changed; what lies behind its lists is neither read nor written.
func TestMatchIsNotKept(t *testing.T) {
	d := disk.New()
	s := opened(t, d)
	key := []byte("zabz")
	places := []int{-7, 4, 9, 8, -7}
	stages := [][]int{nil, places[1:2:2], places[2:3], nil}
	places[2] = 6
	m := api.Match{Key: unsafe.String(&key[1], 2), Stages: stages[1:3]}
	put(t, s, m)
	if string(key) != "zabz" || places[0] != -7 || places[1] != 4 || places[2] != 6 || places[3] != 8 || stages[0] != nil || stages[3] != nil {
		t.Fatalf("what was handed in is %q, %d, %d", key, places, stages)
	}
	copy(key, "----")
	places[1], places[2], stages[1], stages[2] = 90, 91, nil, nil
	was := api.Match{Key: "ab", Stages: [][]int{{4}, {6}}}
	wantPrepare(t, s, 1, api.OK)
	wantFiles(t, d, "t.1", fileOf(was))
	wantCommit(t, s, 1, api.OK)
	wantLedger(t, s, was)
}

// R4: what Ledger and Pending tell is new memory each time, spare room too.
func TestToldIsNew(t *testing.T) {
	d := disk.New()
	s := opened(t, d)
	l := []api.Match{two("b", 3), two("a", 1), two("b", 3)}
	prepare(t, s, 1, l...)
	wantCommit(t, s, 1, api.OK)
	prepare(t, s, 2, l...)
	prepare(t, s, 4)
	for range 2 {
		got := s.Ledger()
		got = got[:cap(got)]
		for i := range got {
			for k, stage := range got[i].Stages[:cap(got[i].Stages)] {
				for j := range stage[:cap(stage)] {
					stage[:cap(stage)][j] = -1
				}
				got[i].Stages[k] = nil
			}
			got[i] = api.Match{}
		}
		wantLedger(t, s, l...)
		p := s.Pending()
		p = p[:cap(p)]
		for i := range p {
			p[i] = -1
		}
		wantState(t, s, 1, 0, 2, 4)
	}
}

// R4: no two lists of one answer share room, and no two keys are one.
func TestToldSharesNothing(t *testing.T) {
	d := disk.New()
	s := opened(t, d)
	prepare(t, s, 1, two("b", 3), two("b", 3), two("b", 5))
	wantCommit(t, s, 1, api.OK)
	got := append(s.Ledger(), s.Ledger()...)
	seen := map[*byte]bool{}
	for _, m := range got {
		if p := unsafe.StringData(m.Key); seen[p] {
			t.Fatal("two keys are one")
		} else {
			seen[p] = true
		}
	}
	for i, m := range got {
		for k, stage := range m.Stages {
			stage = stage[:cap(stage)]
			for j := range stage {
				stage[j] = 10*i + k
			}
		}
	}
	for i, m := range got {
		for k, stage := range m.Stages {
			for _, place := range stage[:cap(stage)] {
				if place != 10*i+k {
					t.Fatalf("the match %d, the stage %d: %d", i, k, stage)
				}
			}
		}
	}
	wantLedger(t, s, two("b", 3), two("b", 3), two("b", 5))
}

// R7: two sinks on two disks know nothing of one another.
func TestTwoSinks(t *testing.T) {
	a, b := disk.New(), disk.New()
	s, other := opened(t, a), opened(t, b)
	prepare(t, s, 1, one(1))
	put(t, other, one(2))
	wantState(t, s, 0, 0, 1)
	wantState(t, other, 0, 1)
	wantCommit(t, s, 1, api.OK)
	wantCommit(t, other, 1, api.ErrTxn)
	wantPrepare(t, other, 3, api.OK)
	wantRecover(t, other, 3, api.OK)
	wantLedger(t, s, one(1))
	wantLedger(t, other, one(2))
	wantState(t, s, 1, 0)
	wantState(t, other, 3, 0)
}
