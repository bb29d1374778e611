package link

import (
	"slices"
	"strings"

	"weaver/api"
)

// Sender keeps the texts that are not acknowledged, in order; the first one's number tells all the others'.
type Sender struct {
	epoch, window, patience int
	first                   int
	left                    []pushed
	now                     int
}

// pushed is a text, and the tick at which it was last sent.
type pushed struct {
	text string
	sent int
}

// never is no tick: that of a text that was not sent yet.
const never = -1

func NewSender(epoch, window, patience int) (*Sender, api.Errno) {
	if !isEpoch(epoch) || !isStretch(window) || !isStretch(patience) {
		return nil, api.ErrRange
	}
	return &Sender{epoch: epoch, window: window, patience: patience}, api.OK
}

func (s *Sender) Push(text string) api.Errno {
	if len(text) > maxText || len(s.left) == api.MaxItems || s.next() > api.MaxSeq {
		return api.ErrLong
	}
	s.left = append(s.left, pushed{text: strings.Clone(text), sent: never})
	return api.OK
}

// next is the number of the next text to be pushed.
func (s *Sender) next() int { return s.first + len(s.left) }

func (s *Sender) Due(now int) ([]string, api.Errno) {
	if now < s.now || now > api.MaxTicks {
		return nil, api.ErrRange
	}
	s.now = now
	var packets []string
	for i := range min(len(s.left), s.window) {
		x := &s.left[i]
		if x.sent != never && now-x.sent < s.patience {
			continue
		}
		x.sent = now
		packets = append(packets, dataBytes(packet{epoch: s.epoch, number: s.first + i, text: x.text}))
	}
	return packets, api.OK
}

func (s *Sender) Heard(packet string) api.Errno {
	x, ok := readAck(packet)
	if !ok {
		return api.ErrForm
	}
	if x.epoch != s.epoch {
		return api.ErrStale
	}
	if x.number > s.next() {
		return api.ErrRange
	}
	// One that was late on its way tells a number that is behind already.
	if x.number > s.first {
		s.left = slices.Delete(s.left, 0, x.number-s.first)
		s.first = x.number
	}
	return api.OK
}

func (s *Sender) Left() int { return len(s.left) }
