package credit

import "weaver/api"

type Purse struct {
	has int
}

func NewPurse() *Purse { return &Purse{} }

func (p *Purse) Add(n int) api.Errno {
	if n < 0 {
		return api.ErrRange
	}
	// What there is room for is asked, not the sum, which could be greater than an int.
	if n > api.MaxCredit-p.has {
		return api.ErrLong
	}
	p.has += n
	return api.OK
}

func (p *Purse) Spend() api.Errno {
	if p.has == 0 {
		return api.ErrCredit
	}
	p.has--
	return api.OK
}

func (p *Purse) Has() int { return p.has }
