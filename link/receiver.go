package link

import "weaver/api"

// Receiver keeps, by their numbers, the texts that came ahead of the one that it expects next.
type Receiver struct {
	epoch, window int
	next          int
	early         map[int]kept
}

type kept struct {
	text string
}

func NewReceiver(epoch, window int) (*Receiver, api.Errno) {
	if !isEpoch(epoch) || !isStretch(window) {
		return nil, api.ErrRange
	}
	return &Receiver{epoch: epoch, window: window, early: map[int]kept{}}, api.OK
}

func (r *Receiver) Take(packet string) (texts []string, ack string, e api.Errno) {
	x, ok := readData(packet)
	if !ok {
		return nil, "", api.ErrForm
	}
	if x.epoch != r.epoch {
		return nil, "", api.ErrStale
	}
	r.keep(x)
	texts = r.tell()
	return texts, r.ack(), api.OK
}

// keep lets in the first text of a number alone, so that no copy takes a text's place.
func (r *Receiver) keep(x packet) {
	if x.number < r.next || x.number >= r.next+r.window {
		return
	}
	if _, ok := r.early[x.number]; !ok {
		r.early[x.number] = kept{text: x.text}
	}
}

// tell gives away the texts from the expected one on, as far as there is no gap.
func (r *Receiver) tell() []string {
	var texts []string
	for {
		x, ok := r.early[r.next]
		if !ok {
			return texts
		}
		delete(r.early, r.next)
		texts = append(texts, x.text)
		r.next++
	}
}

func (r *Receiver) ack() string {
	return ackBytes(packet{epoch: r.epoch, number: r.next})
}

func (r *Receiver) Next() int { return r.next }
