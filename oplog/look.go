package oplog

import (
	"cmp"
	"iter"
	"maps"
	"slices"

	"pannier/api"
	"pannier/vv"
)

// Applied answers of each origin how many events are applied, plain.
func (l *Log) Applied() []int {
	if l.closed() {
		return nil
	}
	return vv.Plain(l.applied)
}

// Get answers the applied event of that dot, and whether there is one.
func (l *Log) Get(d api.Dot) (api.Event, bool) {
	if l.closed() {
		return api.Event{}, false
	}
	e, is := l.events[d]
	return told(e), is
}

// Waiting answers the dots of the events that wait, by rising origins, of one by rising numbers.
func (l *Log) Waiting() []api.Dot {
	if l.closed() {
		return nil
	}
	return slices.SortedFunc(maps.Keys(l.waiting), compareDots)
}

// After answers the applied events that v has not, by rising origins, of one by rising numbers: the first
// most of them.
func (l *Log) After(v []int, most int) []api.Event {
	var events []api.Event
	for e := range l.since(v) {
		if len(events) >= most {
			break
		}
		events = append(events, e)
	}
	return events
}

// All goes over all applied events, by rising origins, of one by rising numbers, as the log is when it is
// ranged over.
func (l *Log) All() iter.Seq[api.Event] {
	return l.since(nil)
}

// since goes over the applied events that v has not, in order.
func (l *Log) since(v []int) iter.Seq[api.Event] {
	return func(yield func(api.Event) bool) {
		if l.closed() {
			return
		}
		// One look is taken at what is applied; applied events stay as they are, so each is looked up in its turn.
		for d := range vv.Between(v, l.applied) {
			if !yield(told(l.events[d])) {
				return
			}
		}
	}
}

// compareDots puts dots by rising origins, those of one by rising numbers.
func compareDots(a, b api.Dot) int {
	return cmp.Or(cmp.Compare(a.Origin, b.Origin), cmp.Compare(a.Seq, b.Seq))
}
