package meter

import "weaver/api"

// greatest is what a count may come to.
const greatest = 1 << 62

func mayBe(count int) bool {
	return 0 <= count && count <= greatest
}

// fits tells whether a count can be raised by n, which is not below 0. It takes away in place of
// adding, since the sum may be more than an int holds.
func fits(count, n int) bool {
	return count <= greatest-n
}

func (m *Meter) has(k int) bool {
	return 0 <= k && k < len(m.counts)
}

func (m *Meter) count(k int) int {
	return int(m.counts[k].Load())
}

func (m *Meter) change(k, was, will int) bool {
	return m.counts[k].CompareAndSwap(int64(was), int64(will))
}

// raise looks and changes again only if somebody else has changed the count in between: so no
// raise is lost, and no two go beyond the greatest count together.
func (m *Meter) raise(k, n int) (int, api.Errno) {
	for {
		was := m.count(k)
		if !fits(was, n) {
			return 0, api.ErrLong
		}
		if m.change(k, was, was+n) {
			return was + n, api.OK
		}
	}
}

// lift tries as raise does: so a mark never falls.
func (m *Meter) lift(k, n int) int {
	for {
		was := m.count(k)
		if was >= n {
			return was
		}
		if m.change(k, was, n) {
			return n
		}
	}
}
