package run

import (
	"weaver/api"
	"weaver/event"
	"weaver/pack"
)

func (r *Run) Save() (string, api.Errno) {
	l := []api.Item{textItem(r.key), numberItem(r.seen), numberItem(len(r.live))}
	for _, x := range r.live {
		l = x.appendTo(l)
	}
	return pack.Encode(l)
}

func (x partial) appendTo(l []api.Item) []api.Item {
	l = append(l, numberItem(len(x.stages)))
	for i, places := range x.stages {
		l = append(l, numberItem(len(places)))
		for _, place := range places {
			l = append(l, numberItem(place))
		}
		last, _ := event.Encode(x.lasts[i])
		l = append(l, textItem(last))
	}
	return append(l, roadItem(x.node.Loop), roadItem(x.node.Take))
}

func textItem(s string) api.Item { return api.Item{Text: true, S: s} }

func numberItem(n int) api.Item { return api.Item{N: int64(n)} }

func roadItem(open bool) api.Item {
	if open {
		return numberItem(1)
	}
	return numberItem(0)
}
