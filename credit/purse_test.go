package credit_test

import (
	"testing"

	"weaver/api"
)

// 20.2: credits are added and spent, one by one.
func TestPurse(t *testing.T) {
	p := purse(t)
	wantHas(t, p, 0)
	wantSpend(t, p, api.ErrCredit)
	wantAdd(t, p, 0, api.OK)
	wantHas(t, p, 0)
	wantSpend(t, p, api.ErrCredit)
	wantAdd(t, p, 2, api.OK)
	wantAdd(t, p, 1, api.OK)
	for has := 3; has > 0; has-- {
		wantHas(t, p, has)
		wantSpend(t, p, api.OK)
	}
	wantHas(t, p, 0)
	wantSpend(t, p, api.ErrCredit)
	wantHas(t, p, 0)
}

// 20.2, R5: a purse has at most api.MaxCredit credits; what would be more, however much more, adds
// nothing.
func TestAddMost(t *testing.T) {
	for has := range api.MaxCredit + 1 {
		p := purse(t)
		wantAdd(t, p, has, api.OK)
		for _, n := range aboves {
			wantAdd(t, p, n, api.ErrLong)
		}
		wantAdd(t, p, api.MaxCredit-has+1, api.ErrLong)
		wantHas(t, p, has)
		wantAdd(t, p, api.MaxCredit-has, api.OK)
		wantHas(t, p, api.MaxCredit)
		wantAdd(t, p, 1, api.ErrLong)
		wantAdd(t, p, 0, api.OK)
		wantSpend(t, p, api.OK)
		wantAdd(t, p, 2, api.ErrLong)
		wantAdd(t, p, 1, api.OK)
		wantHas(t, p, api.MaxCredit)
	}
}

// 20.2, R5: below 0 is refused, and takes nothing away.
func TestAddBelow(t *testing.T) {
	for _, has := range []int{0, 1, 5, api.MaxCredit} {
		p := purse(t)
		wantAdd(t, p, has, api.OK)
		for _, n := range belows {
			wantAdd(t, p, n, api.ErrRange)
		}
		wantHas(t, p, has)
	}
}

// 20.2: all credits of a full purse can be spent, and none besides.
func TestSpendAll(t *testing.T) {
	p := purse(t)
	for range 3 {
		wantAdd(t, p, api.MaxCredit, api.OK)
		for range api.MaxCredit {
			wantSpend(t, p, api.OK)
		}
		wantSpend(t, p, api.ErrCredit)
		wantHas(t, p, 0)
	}
}

// 20.2: what one purse has is nothing to another.
func TestPursesApart(t *testing.T) {
	a, b := purse(t), purse(t)
	wantAdd(t, a, 3, api.OK)
	wantHas(t, b, 0)
	wantSpend(t, b, api.ErrCredit)
	wantHas(t, a, 3)
}
