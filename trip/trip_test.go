package trip_test

import (
	"math"
	"testing"

	"weaver/api"
	"weaver/trip"
)

// rooms may be capacities; belows are none, and none that is used or given back either; places and
// codes are all sorts that a reason may have.
var (
	rooms  = []int{0, 1, 2, 3, 255, 256, 1<<31 - 1, 1 << 31, 1<<32 - 1, 1 << 32, 1 << 62, math.MaxInt - 1, math.MaxInt}
	belows = []int{math.MinInt, math.MinInt + 1, -1 << 62, -1 << 32, math.MinInt32, -256, -2, -1}
	places = []int{math.MinInt, math.MinInt32, -2, -1, 0, 1, 7, 1 << 32, math.MaxInt}
	codes  = []api.Errno{api.ErrRange, api.ErrLong, api.ErrForm, api.ErrNone, api.ErrFull, api.ErrTrip, api.ErrLine, 6, 281, -1, -90, 1 << 32, math.MinInt, math.MaxInt}
)

func made(t *testing.T, room int) *trip.Trip {
	t.Helper()
	x, e := trip.New(room)
	if x == nil || e != api.OK {
		t.Fatalf("New(%d) = %v, %d", room, x, e)
	}
	wantUp(t, x, room)
	return x
}

// with is a trip of which so much is used, in one go.
func with(t *testing.T, room, used int) *trip.Trip {
	t.Helper()
	x := made(t, room)
	wantUse(t, x, used, 1, api.OK)
	wantUp(t, x, room-used)
	return x
}

// wantUp asks twice, since asking changes nothing.
func wantUp(t *testing.T, x *trip.Trip, left int) {
	t.Helper()
	for range 2 {
		if why, down := x.Fallen(); down || why != (api.Fault{}) {
			t.Errorf("Fallen() = %v, %v, want none", why, down)
		}
		if n := x.Room(); n != left {
			t.Errorf("Room() = %d, want %d", n, left)
		}
	}
}

func wantDown(t *testing.T, x *trip.Trip, left int, code api.Errno, at int) {
	t.Helper()
	want := api.Fault{At: at, Code: code}
	for range 2 {
		if why, down := x.Fallen(); !down || why != want {
			t.Errorf("Fallen() = %v, %v, want %v", why, down, want)
		}
		if n := x.Room(); n != left {
			t.Errorf("Room() = %d, want %d", n, left)
		}
	}
}

func wantFail(t *testing.T, x *trip.Trip, code api.Errno, at int, first bool) {
	t.Helper()
	if ok, e := x.Fail(code, at); ok != first || e != api.OK {
		t.Errorf("Fail(%d, %d) = %v, %d, want %v", code, at, ok, e, first)
	}
}

func wantNotFail(t *testing.T, x *trip.Trip, at int) {
	t.Helper()
	if ok, e := x.Fail(api.OK, at); ok || e != api.ErrRange {
		t.Errorf("Fail(OK, %d) = %v, %d, want false, %d", at, ok, e, api.ErrRange)
	}
}

func wantUse(t *testing.T, x *trip.Trip, n, at int, want api.Errno) {
	t.Helper()
	if e := x.Use(n, at); e != want {
		t.Errorf("Use(%d, %d) = %d, want %d", n, at, e, want)
	}
}

func wantBack(t *testing.T, x *trip.Trip, n int, want api.Errno) {
	t.Helper()
	if e := x.Back(n); e != want {
		t.Errorf("Back(%d) = %d, want %d", n, e, want)
	}
}

// The chapter's example.
func TestExample(t *testing.T) {
	x := made(t, 3)
	wantUse(t, x, 2, 5, api.OK)
	wantUse(t, x, 2, 6, api.ErrFull)
	wantFail(t, x, api.ErrLong, 7, false)
	wantDown(t, x, 1, api.ErrFull, 6)
	wantBack(t, x, 1, api.ErrTrip)
	wantDown(t, x, 1, api.ErrFull, 6)
}

// 9.1: each capacity may be, from 0 on; a new trip has all of it, and has not fallen.
func TestNew(t *testing.T) {
	for _, room := range rooms {
		made(t, room)
	}
}

// 9.1, R5: beside the error there is no trip.
func TestWrongNew(t *testing.T) {
	for _, room := range belows {
		if x, e := trip.New(room); x != nil || e != api.ErrRange {
			t.Errorf("New(%d) = %v, %d, want nil, %d", room, x, e, api.ErrRange)
		}
	}
}

// 9.2: any code but OK is a reason, at any place.
func TestFail(t *testing.T) {
	for _, code := range codes {
		for _, at := range places {
			x := with(t, 9, 4)
			wantFail(t, x, code, at, true)
			wantDown(t, x, 5, code, at)
		}
	}
}

// 9.2, R1, R5: OK is no reason, ahead of the fall and behind it, and leaves all as it is.
func TestFailOfOK(t *testing.T) {
	x := with(t, 9, 4)
	for _, at := range places {
		wantNotFail(t, x, at)
		wantUp(t, x, 5)
	}
	wantFail(t, x, api.ErrSum, 3, true)
	for _, at := range places {
		wantNotFail(t, x, at)
		wantDown(t, x, 5, api.ErrSum, 3)
	}
}

// 9.2: what is used may come to just the capacity, nothing more can be used then but 0.
func TestUse(t *testing.T) {
	for _, room := range rooms {
		for _, used := range rooms {
			if used > room {
				continue
			}
			x := with(t, room, used)
			wantUse(t, x, 0, 2, api.OK)
			wantUp(t, x, room-used)
			wantUse(t, x, room-used, 3, api.OK)
			wantUp(t, x, 0)
			wantUse(t, x, 0, 4, api.OK)
			wantUp(t, x, 0)
			wantUse(t, x, 1, 5, api.ErrFull)
			wantDown(t, x, 0, api.ErrFull, 5)
		}
	}
}

// 9.2: the trip falls at this place if more is asked for than is left, by one or by as much as
// there can be; none of it is used.
func TestUseTooMuch(t *testing.T) {
	for _, room := range rooms {
		for _, used := range rooms {
			for _, n := range append([]int{room - used + 1, room}, rooms...) {
				if used > room || n <= room-used {
					continue
				}
				for _, at := range places {
					x := with(t, room, used)
					wantUse(t, x, n, at, api.ErrFull)
					wantDown(t, x, room-used, api.ErrFull, at)
				}
			}
		}
	}
}

// 9.2, R5: a number below 0 is refused, also where nothing is left, and the trip stays up.
func TestWrongUse(t *testing.T) {
	for _, room := range rooms {
		for _, used := range []int{0, room / 2, room} {
			x := with(t, room, used)
			for _, n := range belows {
				for _, at := range places {
					wantUse(t, x, n, at, api.ErrRange)
				}
				wantUp(t, x, room-used)
			}
		}
	}
}

// 9.2: what is used can be given back, in part, nothing of it or all; then it can be used again.
func TestBack(t *testing.T) {
	for _, room := range rooms {
		for _, used := range rooms {
			for _, n := range append([]int{used - 1, used}, rooms...) {
				if used > room || n < 0 || n > used {
					continue
				}
				x := with(t, room, used)
				wantBack(t, x, n, api.OK)
				wantUp(t, x, room-used+n)
				wantUse(t, x, n, 7, api.OK)
				wantUp(t, x, room-used)
			}
		}
	}
}

// 9.2, R5: numbers below 0, and more than is used (though not more than the capacity), are refused,
// and the trip stays up.
func TestWrongBack(t *testing.T) {
	for _, room := range rooms {
		for _, used := range []int{0, room / 2, room} {
			x := with(t, room, used)
			for _, n := range append(append([]int{used + 1, room}, belows...), rooms...) {
				if 0 <= n && n <= used {
					continue
				}
				wantBack(t, x, n, api.ErrRange)
				wantUp(t, x, room-used)
			}
		}
	}
}

// 9.2: what was given back is no more used: it can't be given back again.
func TestBackTwice(t *testing.T) {
	x := with(t, 9, 4)
	wantBack(t, x, 3, api.OK)
	wantBack(t, x, 2, api.ErrRange)
	wantBack(t, x, 1, api.OK)
	wantBack(t, x, 1, api.ErrRange)
	wantBack(t, x, 0, api.OK)
	wantUp(t, x, 9)
}
