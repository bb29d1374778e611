package meter_test

import (
	"math/rand"
	"testing"

	"weaver/api"
	"weaver/meter"
)

func wantJoin(t *testing.T, m, other *meter.Meter, counts [8]int) {
	t.Helper()
	theirs := other.All()
	if e := m.Join(other); e != api.OK {
		t.Errorf("Join(%v) = %d", theirs, e)
	}
	wantAll(t, m, counts)
	if m != other {
		wantAll(t, other, theirs)
	}
}

func wantNotJoin(t *testing.T, m, other *meter.Meter, want api.Errno) {
	t.Helper()
	mine, theirs := m.All(), [8]int{}
	if other != nil {
		theirs = other.All()
	}
	if e := m.Join(other); e != want {
		t.Errorf("Join(%v) = %d, want %d", theirs, e, want)
	}
	wantAll(t, m, mine)
	if other != nil {
		wantAll(t, other, theirs)
	}
}

// 8.2: each count is raised by the other's; the other one stays as it is, and is not kept.
func TestJoin(t *testing.T) {
	m, o := made(t, 1, 2, 3, 4, 5, 6, 7, 8), made(t, 10, 20, 30, 40, 50, 60, 70, 80)
	wantJoin(t, m, o, [8]int{11, 22, 33, 44, 55, 66, 77, 88})
	wantAdd(t, o, 0, 5, 15)
	wantAdd(t, m, 7, 2, 90)
	wantAll(t, m, [8]int{11, 22, 33, 44, 55, 66, 77, 90})
	wantAll(t, o, [8]int{15, 20, 30, 40, 50, 60, 70, 80})
	wantJoin(t, m, o, [8]int{26, 42, 63, 84, 105, 126, 147, 170})
	wantJoin(t, made(t), o, [8]int{15, 20, 30, 40, 50, 60, 70, 80})
	wantJoin(t, o, made(t), [8]int{15, 20, 30, 40, 50, 60, 70, 80})
	wantJoin(t, made(t), made(t), [8]int{})
}

// 8.2: joined with itself, each count is twice as much, as long as it can be.
func TestJoinItself(t *testing.T) {
	m := made(t, 1, 2, 3, 4, 5, 6, 7, 8)
	wantJoin(t, m, m, [8]int{2, 4, 6, 8, 10, 12, 14, 16})
	wantJoin(t, m, m, [8]int{4, 8, 12, 16, 20, 24, 28, 32})
	for k := range 8 {
		m, want := made(t, 1, 1, 1, 1, 1, 1, 1, 1), [8]int{2, 2, 2, 2, 2, 2, 2, 2}
		wantSwap(t, m, k, 1, greatest/2, true)
		want[k] = greatest
		wantJoin(t, m, m, want)
		wantNotJoin(t, m, m, api.ErrLong)
		wantSwap(t, m, k, greatest, greatest/2+1, true)
		wantNotJoin(t, m, m, api.ErrLong)
	}
}

// 8.2: one sum that is too much, wherever it stands, and nothing changes; just as much is right.
func TestJoinTooMuch(t *testing.T) {
	for k := range 8 {
		for _, n := range anyCounts {
			m, o, want := made(t, 1, 1, 1, 1, 1, 1, 1, 1), made(t, 1, 1, 1, 1, 1, 1, 1, 1), [8]int{2, 2, 2, 2, 2, 2, 2, 2}
			wantSwap(t, m, k, 1, greatest-n, true)
			wantSwap(t, o, k, 1, n, true)
			want[k] = greatest
			wantJoin(t, m, o, want)
			if n == 0 {
				continue
			}
			wantSwap(t, m, k, greatest, greatest-n+1, true)
			wantNotJoin(t, m, o, api.ErrLong)
			wantNotJoin(t, o, m, api.ErrLong)
		}
	}
}

// 8.2: both at the greatest count, where a sum of two is more than an int holds.
func TestJoinGreatest(t *testing.T) {
	m, o := made(t, 0, 0, greatest), made(t, 3, 0, greatest)
	wantNotJoin(t, m, o, api.ErrLong)
	wantSwap(t, o, 2, greatest, 0, true)
	wantJoin(t, m, o, [8]int{3, 0, greatest})
}

// 8.2: no meter.
func TestJoinNone(t *testing.T) {
	wantNotJoin(t, made(t), nil, api.ErrNone)
	wantNotJoin(t, made(t, 1, 2, 3, 4, 5, 6, 7, greatest), nil, api.ErrNone)
}

// 8.3: whichever meter counts each raise, and in which order, joined they are as one that counted all.
func TestJoinedAsCountedHere(t *testing.T) {
	r := rand.New(rand.NewSource(8))
	for range 200 {
		one, here := made(t), made(t)
		parts := []*meter.Meter{made(t), made(t), made(t), here}
		type raised struct{ k, n int }
		var raises []raised
		for range r.Intn(60) {
			raises = append(raises, raised{r.Intn(8), r.Intn(1 << 55)})
		}
		for _, x := range raises {
			one.Add(x.k, x.n)
		}
		r.Shuffle(len(raises), func(i, j int) { raises[i], raises[j] = raises[j], raises[i] })
		for _, x := range raises {
			parts[r.Intn(len(parts))].Add(x.k, x.n)
		}
		for _, i := range r.Perm(3) {
			if e := here.Join(parts[i]); e != api.OK {
				t.Fatal(e)
			}
		}
		wantAll(t, here, one.All())
	}
}
