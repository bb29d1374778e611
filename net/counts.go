package net

import "sync/atomic"

// What is counted, in the order in which it is told.
const (
	sent = iota
	lost
	copied
	taken
)

// counts are atomic, so that whoever watches a net may ask for them while another moves packets.
type counts [4]atomic.Int64

func (c *counts) raise(k, n int) { c[k].Add(int64(n)) }

func (c *counts) all() [4]int {
	var all [4]int
	for k := range all {
		all[k] = int(c[k].Load())
	}
	return all
}
