package route

import "weaver/api"

// What a task may be.
const (
	kindSource = iota
	kindMatcher
	kindSink
)

func (p Plan) mayBe() bool {
	return 1 <= p.Groups && p.Groups <= api.MaxGroups &&
		1 <= p.Matchers && p.Matchers <= min(p.Groups, api.MaxTasks) &&
		1 <= p.Sources && p.Sources <= min(api.MaxParts, api.MaxTasks)
}

func (p Plan) sink() int {
	return p.Sources + p.Matchers
}

// firstToSink is the channel behind all those of the sources, which come from lower tasks.
func (p Plan) firstToSink() int {
	return p.Sources * p.Matchers
}

// from is the task that a channel of the plan comes from.
func (p Plan) from(channel int) int {
	if channel < p.firstToSink() {
		return channel / p.Matchers
	}
	return p.Sources + channel - p.firstToSink()
}

// to is the task that a channel of the plan goes to.
func (p Plan) to(channel int) int {
	if channel < p.firstToSink() {
		return p.Sources + channel%p.Matchers
	}
	return p.sink()
}

func (p Plan) checkTask(task int) api.Errno {
	if !p.mayBe() {
		return api.ErrRange
	}
	if task < 0 || task >= p.Tasks() {
		return api.ErrTask
	}
	return api.OK
}

// channelsWith lists the channels that have the task at one of their ends: at that which the
// method tells.
func (p Plan) channelsWith(end func(Plan, int) int, task int) ([]int, api.Errno) {
	if e := p.checkTask(task); e != api.OK {
		return nil, e
	}
	var channels []int
	for channel := range p.Channels() {
		if end(p, channel) == task {
			channels = append(channels, channel)
		}
	}
	return channels, api.OK
}
