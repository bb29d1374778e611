package credit

import "weaver/api"

// ring has texts in rows that are a part of one array, as many as its size: the first text may
// stand in any of them, and behind the last row comes the first one again. Who calls push, shift
// and front has asked whether there is room, or a text.
type ring struct {
	array             [api.MaxCredit]string
	size, first, many int
}

// rows ends in capacity, too, where the ring ends: nothing that is done to them reaches the rest
// of the array.
func (r *ring) rows() []string { return r.array[:r.size:r.size] }

func (r *ring) free() int { return r.size - r.many }

func (r *ring) push(text string) {
	r.rows()[(r.first+r.many)%r.size] = text
	r.many++
}

func (r *ring) front() string { return r.rows()[r.first] }

// shift empties the row, so that a text that was taken is not kept.
func (r *ring) shift() string {
	row := &r.rows()[r.first]
	text := *row
	*row = ""
	r.first = (r.first + 1) % r.size
	r.many--
	return text
}
