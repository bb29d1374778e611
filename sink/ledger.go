package sink

import (
	"weaver/api"
	"weaver/disk"
	"weaver/event"
	"weaver/pack"
	"weaver/tape"
)

// ledgerName is the file of the ledger's tape.
const ledgerName = "ledger"

// entry is what a text of the ledger says.
type entry interface {
	text() string
}

// begin says that a transaction is committed, match is one of its own, end how many these are.
type (
	begin struct{ c int }
	match struct{ m api.Match }
	end   struct{ c, matches int }
)

func (x begin) text() string {
	return numbersText(x.c)
}

func (x match) text() string {
	b, _ := event.EncodeMatch(x.m)
	return b
}

func (x end) text() string {
	return numbersText(x.c, x.matches)
}

func numbersText(numbers ...int) string {
	var l []api.Item
	for _, n := range numbers {
		l = append(l, api.Item{N: int64(n)})
	}
	b, _ := pack.Encode(l)
	return b
}

func (t transaction) entries() []entry {
	l := []entry{begin{t.c}}
	for _, m := range t.matches {
		l = append(l, match{m})
	}
	return append(l, end{t.c, len(t.matches)})
}

// entryOf answers nil for a text that the ledger can not have.
func entryOf(b string) entry {
	if m, e := event.DecodeMatch(b); e == api.OK {
		return match{m}
	}
	l, _ := pack.Decode(b)
	for _, x := range l {
		if x.Text {
			return nil
		}
	}
	switch len(l) {
	case 1:
		return begin{int(l[0].N)}
	case 2:
		return end{int(l[0].N), int(l[1].N)}
	}
	return nil
}

// reader goes over the ledger's texts; those of a transaction count when its end has come.
type reader struct {
	whole []api.Match
	last  int
	texts int // how many are of transactions that are whole
	c     int // of the transaction that has begun; 0 outside of one
	part  []api.Match
}

// take answers whether the text may stand behind those that were taken.
func (r *reader) take(x entry) bool {
	if b, ok := x.(begin); ok {
		return r.begin(b.c)
	}
	if r.c == 0 {
		return false
	}
	if m, ok := x.(match); ok {
		r.part = append(r.part, m.m)
		return true
	}
	if n, ok := x.(end); !ok || n != (end{r.c, len(r.part)}) {
		return false
	}
	r.keep()
	return true
}

func (r *reader) begin(c int) bool {
	if r.c != 0 || !mayFollow(r.last, c) {
		return false
	}
	r.c = c
	return true
}

func (r *reader) keep() {
	r.whole = append(r.whole, r.part...)
	r.texts += len(r.part) + 2
	r.last, r.c, r.part = r.c, 0, nil
}

// readLedger stops at the first text that may not stand where it does.
func readLedger(t *tape.Tape) (r reader, ok bool) {
	for i := range t.Len() {
		b, _ := t.Read(i)
		if !r.take(entryOf(b)) {
			return r, false
		}
	}
	return r, true
}

// openLedger takes back what a crash has left of a last transaction.
func openLedger(d *disk.Disk) (*tape.Tape, reader, api.Errno) {
	t, e := tape.Open(d, ledgerName)
	if e != api.OK {
		return nil, reader{}, e
	}
	r, ok := readLedger(t)
	if !ok {
		return nil, reader{}, api.ErrCorrupt
	}
	if r.c == 0 {
		return t, r, api.OK
	}
	if e := cutBehind(d, r.texts); e != api.OK {
		return nil, reader{}, e
	}
	t, e = tape.Open(d, ledgerName)
	return t, r, e
}

// cutBehind leaves of the ledger its first texts.
func cutBehind(d *disk.Disk, texts int) api.Errno {
	b, _ := d.Read(ledgerName)
	at := 0
	for range texts {
		_, at, _ = pack.Unframe(b, at)
	}
	if e := d.Cut(ledgerName, at); e != api.OK {
		return e
	}
	return d.Sync()
}
