package net_test

import (
	"math/rand"
	"strconv"
	"strings"
	"testing"

	"weaver/api"
	"weaver/net"
)

// model is a net by the chapter's words, of another make: all packets stand in one list, in the
// order in which they came on their way.
type model struct {
	nodes   int
	packets []sentOne
	counts  [4]int
}

type sentOne struct {
	from, to int
	b        string
}

func (m *model) isNode(x int) bool { return x >= 0 && x < m.nodes }

// spots are the places in the list of all that is on its way to a node.
func (m *model) spots(to int) []int {
	var l []int
	for spot, p := range m.packets {
		if p.to == to {
			l = append(l, spot)
		}
	}
	return l
}

func (m *model) without(spot int) {
	m.packets = append(append([]sentOne{}, m.packets[:spot]...), m.packets[spot+1:]...)
}

func (m *model) send(p sentOne) api.Errno {
	if !m.isNode(p.from) || !m.isNode(p.to) {
		return api.ErrNode
	}
	if len(p.b) > api.MaxFrame || len(m.spots(p.to)) >= api.MaxItems {
		return api.ErrLong
	}
	m.packets = append(m.packets, p)
	m.counts[0]++
	return api.OK
}

func (m *model) spot(to, i int) (int, api.Errno) {
	if !m.isNode(to) {
		return 0, api.ErrNode
	}
	l := m.spots(to)
	if i < 0 || i >= len(l) {
		return 0, api.ErrNone
	}
	return l[i], api.OK
}

func (m *model) clear(node int) (gone int) {
	var left []sentOne
	for _, p := range m.packets {
		if p.from == node || p.to == node {
			gone++
		} else {
			left = append(left, p)
		}
	}
	m.packets = left
	m.counts[1] += gone
	return gone
}

// walk has a net and its model.
type walk struct {
	t *testing.T
	n *net.Net
	m *model
}

func newWalk(t *testing.T, nodes int) *walk {
	return &walk{t: t, n: made(t, nodes), m: &model{nodes: nodes}}
}

func (w *walk) send(from, to int, b string) {
	w.t.Helper()
	wantSend(w.t, w.n, from, to, b, w.m.send(sentOne{from, to, b}))
}

func (w *walk) take(to, i int) {
	w.t.Helper()
	spot, e := w.m.spot(to, i)
	if e != api.OK {
		wantNoTake(w.t, w.n, to, i, e)
		return
	}
	p := w.m.packets[spot]
	wantTake(w.t, w.n, to, i, p.from, p.b)
	w.m.without(spot)
	w.m.counts[3]++
}

func (w *walk) lose(to, i int) {
	w.t.Helper()
	spot, e := w.m.spot(to, i)
	wantLose(w.t, w.n, to, i, e)
	if e == api.OK {
		w.m.without(spot)
		w.m.counts[1]++
	}
}

func (w *walk) copy(to, i int) {
	w.t.Helper()
	spot, e := w.m.spot(to, i)
	if e == api.OK && len(w.m.spots(to)) >= api.MaxItems {
		e = api.ErrLong
	}
	wantCopy(w.t, w.n, to, i, e)
	if e == api.OK {
		w.m.packets = append(w.m.packets, w.m.packets[spot])
		w.m.counts[2]++
	}
}

func (w *walk) clear(node int) {
	w.t.Helper()
	if !w.m.isNode(node) {
		if gone, e := w.n.Clear(node); gone != 0 || e != api.ErrNode {
			w.t.Fatalf("Clear(%d) = %d, %d", node, gone, e)
		}
		return
	}
	wantClear(w.t, w.n, node, w.m.clear(node))
}

// look holds against the model what the net tells of itself, and against 18.3 what it counts.
func (w *walk) look() {
	w.t.Helper()
	under := 0
	for node := range w.m.nodes {
		wantWay(w.t, w.n, node, len(w.m.spots(node)))
		under += len(w.m.spots(node))
	}
	c := w.m.counts
	wantCounts(w.t, w.n, c[0], c[1], c[2], c[3])
	if c[0]+c[2] != under+c[1]+c[3] {
		w.t.Fatalf("%d sent, %d copied, but %d on their way, %d lost, %d taken", c[0], c[2], under, c[1], c[3])
	}
}

// end takes all that is left.
func (w *walk) end() {
	w.t.Helper()
	for node := range w.m.nodes {
		for range w.m.spots(node) {
			w.take(node, 0)
		}
	}
	w.look()
}

// number is mostly below most, and now and then none of those.
func number(r *rand.Rand, most int) int {
	switch r.Intn(40) {
	case 0:
		return wrongs[r.Intn(len(wrongs))]
	case 1:
		return most
	}
	return r.Intn(most)
}

func (w *walk) step(r *rand.Rand) {
	w.t.Helper()
	to := number(r, w.m.nodes)
	i := number(r, max(1, len(w.m.spots(to))))
	switch r.Intn(16) {
	case 0, 1:
		w.take(to, i)
	case 2, 3:
		w.lose(to, i)
	case 4, 5, 6, 7:
		w.copy(to, i)
	case 8:
		if r.Intn(4) == 0 {
			w.clear(to)
		}
	default:
		w.send(number(r, w.m.nodes), to, strconv.Itoa(r.Intn(1000))+strings.Repeat("-", r.Intn(9)))
	}
	w.look()
}

// 18.1 to 18.3, R7: what nets tell and keep on long walks, held against the model's words.
func TestWalk(t *testing.T) {
	for seed := range int64(600) {
		r := rand.New(rand.NewSource(seed))
		w := newWalk(t, 1+r.Intn(api.MaxNodes))
		for range 200 {
			w.step(r)
		}
		w.end()
	}
}

// calls are all that can be done in a net of two nodes, with the numbers of at most three packets.
func calls() []func(*walk) {
	var l []func(*walk)
	for from := range 2 {
		l = append(l, func(w *walk) { w.clear(from) })
		for to := range 2 {
			l = append(l, func(w *walk) { w.send(from, to, strconv.Itoa(w.m.counts[0])) })
		}
	}
	for i := range 3 {
		l = append(l, func(w *walk) { w.take(1, i) }, func(w *walk) { w.lose(1, i) }, func(w *walk) { w.copy(1, i) })
	}
	return l
}

// every takes every way that so many calls more can go behind those that were chosen.
func every(t *testing.T, more int, all, chosen []func(*walk)) {
	if more == 0 {
		w := newWalk(t, 2)
		for _, call := range chosen {
			call(w)
			w.look()
		}
		w.end()
		return
	}
	for _, call := range all {
		every(t, more-1, all, append(chosen[:len(chosen):len(chosen)], call))
	}
}

// 18.1 to 18.3: all walks of four calls behind two packets that were sent.
func TestShortWalks(t *testing.T) {
	first := func(w *walk) { w.send(0, 1, "a") }
	second := func(w *walk) { w.send(1, 1, "b") }
	every(t, 4, calls(), []func(*walk){first, second})
}

// 18.3: what is taken in order, with nothing lost or copied, is what was sent, in order, whoever
// sends between.
func TestInOrder(t *testing.T) {
	r := rand.New(rand.NewSource(18))
	for range 50 {
		nodes := 1 + r.Intn(api.MaxNodes)
		n, sends, takes := made(t, nodes), make([][]sentOne, nodes), make([]int, nodes)
		for range 1000 {
			to := r.Intn(nodes)
			if r.Intn(3) > 0 {
				p := sentOne{r.Intn(nodes), to, strconv.Itoa(r.Int())}
				wantSend(t, n, p.from, to, p.b, api.OK)
				sends[to] = append(sends[to], p)
			} else if takes[to] < len(sends[to]) {
				p := sends[to][takes[to]]
				wantTake(t, n, to, 0, p.from, p.b)
				takes[to]++
			}
		}
		for to := range nodes {
			for _, p := range sends[to][takes[to]:] {
				wantTake(t, n, to, 0, p.from, p.b)
			}
			wantWay(t, n, to, 0)
		}
	}
}
