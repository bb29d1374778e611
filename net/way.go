package net

import (
	"slices"

	"weaver/api"
)

type packet struct {
	from  int
	bytes string
}

// way is a list of packets that are on their way to one node: a packet's number is its place there.
type way []packet

func (w way) has(i int) bool { return 0 <= i && i < len(w) }

func (w way) isFull() bool { return len(w) == api.MaxItems }

func (w *way) put(p packet) { *w = append(*w, p) }

func (w *way) pull(i int) packet {
	p := (*w)[i]
	*w = slices.Delete(*w, i, i+1)
	return p
}

// clear tells how many packets there were.
func (w *way) clear() int {
	gone := len(*w)
	*w = nil
	return gone
}

// clearOf takes away what comes from one node, and tells how many packets that were.
func (w *way) clearOf(from int) int {
	ahead := len(*w)
	*w = slices.DeleteFunc(*w, func(p packet) bool { return p.from == from })
	return ahead - len(*w)
}
