package buffer

import "weaver/api"

// table has the entries by their numbers; many of them are there, the others are zero.
type table struct {
	entries [api.MaxItems]entry
	many    int
}

func (t *table) has(id int) bool {
	return id >= 0 && id < api.MaxItems && t.entries[id].sum() > 0
}

// find goes no further than to the last entry that is there: a buffer seldom is full.
func (t *table) find(k key) (int, bool) {
	for id, left := 0, t.many; left > 0; id++ {
		if !t.has(id) {
			continue
		}
		if t.entries[id].key == k {
			return id, true
		}
		left--
	}
	return 0, false
}

// free is the least number that no entry has. There is one: the table is not full.
func (t *table) free() int {
	id := 0
	for t.has(id) {
		id++
	}
	return id
}

// add puts a key that no entry has, into a table that is not full.
func (t *table) add(k key) int {
	id := t.free()
	t.entries[id] = entry{key: k, count: count{held: 1}}
	if !k.isFirst() {
		t.entries[k.parent].children++
	}
	t.many++
	return id
}

// sweep takes the entry away, if nothing holds it any more, and so its parent, and so on. It tells
// how many it took.
func (t *table) sweep(id int) int {
	gone := 0
	for id != none && !t.has(id) {
		id = t.remove(id)
		gone++
	}
	return gone
}

// remove tells the parent, which has a child less.
func (t *table) remove(id int) int {
	parent := t.entries[id].parent
	t.entries[id] = entry{}
	t.many--
	if parent != none {
		t.entries[parent].children--
	}
	return parent
}
