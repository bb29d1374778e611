package trip_test

import (
	"testing"

	"weaver/api"
	"weaver/trip"
)

// wantNothingMore calls all there is of a trip that has fallen, with right and wrong numbers, and
// looks whether it still is as it was.
func wantNothingMore(t *testing.T, x *trip.Trip, left int, code api.Errno, at int) {
	t.Helper()
	for _, n := range append(append([]int{left, left + 1}, belows...), rooms...) {
		wantBack(t, x, n, api.ErrTrip)
		wantUse(t, x, n, 11, api.ErrTrip)
		wantDown(t, x, left, code, at)
	}
	for _, later := range codes {
		for _, place := range places {
			wantFail(t, x, later, place, false)
			wantUse(t, x, 1, place, api.ErrTrip)
			wantNotFail(t, x, place)
		}
		wantDown(t, x, left, code, at)
	}
}

// 9.2, 9.3, R1: behind a failing no call changes anything; the fall comes ahead of what is wrong
// with a number.
func TestBehindFail(t *testing.T) {
	for _, code := range codes {
		for _, at := range places {
			for _, used := range []int{0, 4, 9} {
				x := with(t, 9, used)
				wantFail(t, x, code, at, true)
				wantNothingMore(t, x, 9-used, code, at)
			}
		}
	}
}

// 9.2, 9.3: nor behind a store that ran out, the same call included.
func TestBehindFull(t *testing.T) {
	for _, at := range places {
		for _, used := range []int{0, 4, 9} {
			x := with(t, 9, used)
			wantUse(t, x, 10-used, at, api.ErrFull)
			wantUse(t, x, 10-used, at, api.ErrTrip)
			wantNothingMore(t, x, 9-used, api.ErrFull, at)
		}
	}
}

// 9.3: the same reason a second time is no first one either.
func TestSameReasonTwice(t *testing.T) {
	x := made(t, 1)
	wantFail(t, x, api.ErrFull, 0, true)
	wantFail(t, x, api.ErrFull, 0, false)
	wantDown(t, x, 1, api.ErrFull, 0)
}

// 9.2: calls that were refused are no reasons: the first one comes later.
func TestRefusedIsNoReason(t *testing.T) {
	x := with(t, 5, 2)
	wantNotFail(t, x, 1)
	wantUse(t, x, -1, 2, api.ErrRange)
	wantBack(t, x, 3, api.ErrRange)
	wantBack(t, x, -1, api.ErrRange)
	wantFail(t, x, api.ErrState, 4, true)
	wantDown(t, x, 3, api.ErrState, 4)
}

// R7: each trip has a room and a reason of its own.
func TestApart(t *testing.T) {
	x, y, z := made(t, 5), made(t, 5), made(t, 6)
	wantUse(t, x, 2, 1, api.OK)
	wantFail(t, x, api.ErrGate, 2, true)
	wantUp(t, y, 5)
	wantUse(t, y, 6, 3, api.ErrFull)
	wantUp(t, z, 6)
	wantUse(t, z, 6, 4, api.OK)
	wantDown(t, x, 3, api.ErrGate, 2)
	wantDown(t, y, 5, api.ErrFull, 3)
	wantUp(t, z, 0)
	made(t, 5)
}

// R4: a reason that is written over changes none that is kept.
func TestReasonIsNew(t *testing.T) {
	x := made(t, 5)
	wantFail(t, x, api.ErrGate, 2, true)
	why, _ := x.Fallen()
	why.At, why.Code = 9, api.OK
	wantDown(t, x, 5, api.ErrGate, 2)
}
