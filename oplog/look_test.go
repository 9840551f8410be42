package oplog_test

import (
	"iter"
	"math"
	"reflect"
	"slices"
	"testing"

	"pannier/api"
	"pannier/oplog"
)

// wantAll looks whether events goes over those, each time anew.
func wantAll(t *testing.T, events iter.Seq[api.Event], wanted []api.Event) {
	t.Helper()
	for range 2 {
		wantEvents(t, "All", slices.Collect(events), wanted)
	}
}

// some is a log of three origins, and all its applied events in order; two more wait.
func some(t *testing.T) (*oplog.Log, []api.Event) {
	t.Helper()
	l := oplog.New()
	all := []api.Event{event(0, 1, 0, 1), event(0, 2, 1, 1), event(0, 3, 2, 1, 0, 1), event(1, 1), event(3, 1, 1, 1), event(3, 2, 1, 1, 0, 1)}
	for _, at := range []int{3, 0, 1, 4, 2, 5} {
		put(t, l, all[at], all[at])
	}
	put(t, l, event(0, 9, 8))
	put(t, l, event(2, 1, 4))
	return l, all
}

func TestGet(t *testing.T) {
	l, all := some(t)
	wantLog(t, l, []int{3, 1, 0, 2}, all, pairs(0, 9, 2, 1))
	for _, d := range pairs(0, 0, 0, 4, 0, -1, 1, 2, 2, 1, 2, 0, 3, 3, 4, 1, 7, 1, -1, 1, 0, math.MaxInt, math.MaxInt, 1, 0, math.MinInt) {
		if e, is := l.Get(d); !reflect.DeepEqual(e, api.Event{}) || is {
			t.Errorf("Get(%v): %v, %v", d, e, is)
		}
	}
}

func TestAfter(t *testing.T) {
	l, all := some(t)
	tests := []struct {
		v      []int
		wanted []api.Event
	}{
		{nil, all},
		{[]int{0, 0, 0, 0, 0}, all},
		{[]int{3, 1, 0, 2}, nil},
		{[]int{9, 9, 9, 9, 9, 9, 9, 9}, nil},
		{[]int{math.MaxInt, 0, 0, math.MaxInt}, all[3:4]},
		{[]int{3}, all[3:]},
		{[]int{3, 1}, all[4:]},
		{[]int{2, 1, 5, 1}, []api.Event{all[2], all[5]}},
		{[]int{0, 1}, slices.Concat(all[:3], all[4:])},
		{[]int{0, 0, 7, 2}, all[:4]},
		{[]int{-5, math.MinInt, 0, 2}, all[:4]},
		{[]int{1, 4, -1, -1}, slices.Concat(all[1:3], all[4:])},
	}
	for _, k := range tests {
		for _, most := range []int{math.MinInt, -1, 0, 1, 2, 3, 4, 5, 6, 7, math.MaxInt} {
			v := append(slices.Clone(k.v), 77, 78)
			wantEvents(t, "After", l.After(v[:len(k.v)], most), k.wanted[:min(max(most, 0), len(k.wanted))])
			if !slices.Equal(v, append(slices.Clone(k.v), 77, 78)) {
				t.Error("After changed its argument:", v)
			}
		}
	}
}

// An iterator may be stopped at each event, and begins anew.
func TestAllStopped(t *testing.T) {
	l, all := some(t)
	events := l.All()
	for stop := range all {
		var got []api.Event
		for e := range events {
			got = append(got, e)
			if len(got) == stop+1 {
				break
			}
		}
		wantEvents(t, "stopped", got, all[:stop+1])
		wantAll(t, events, all)
	}
	for range events {
		wantAll(t, events, all)
	}
	wantLog(t, l, []int{3, 1, 0, 2}, all, pairs(0, 9, 2, 1))
}

// The log is looked at when it is ranged over, once ahead of the first event.
func TestAllLooksOnce(t *testing.T) {
	l := oplog.New()
	events := l.All()
	put(t, l, event(0, 1), event(0, 1))
	put(t, l, event(1, 1), event(1, 1))
	var got []api.Event
	for e := range events {
		got = append(got, e)
		if len(got) == 1 {
			put(t, l, event(0, 2, 1), event(0, 2, 1))
			put(t, l, event(1, 2, 0, 1), event(1, 2, 0, 1))
			put(t, l, event(4, 1), event(4, 1))
		}
	}
	wantEvents(t, "All", got, []api.Event{event(0, 1), event(1, 1)})
	wantAll(t, events, []api.Event{event(0, 1), event(0, 2, 1), event(1, 1), event(1, 2, 0, 1), event(4, 1)})
}

// spoil overwrites all that an answered event has of lists, with their room.
func spoil(l ...api.Event) {
	for _, e := range l {
		deps := e.Deps[:cap(e.Deps)]
		for i := range deps {
			deps[i] = 99
		}
	}
}

// What is handed in is not kept, and what is answered is new memory each time.
func TestMemory(t *testing.T) {
	l := oplog.New()
	early, first, third := event(1, 2, 1, 1, 3, 88), event(1, 1, 0, 0, 3, 88), event(2, 1)
	early.Deps, first.Deps = early.Deps[:3], first.Deps[:3]
	fits := []api.Event{event(1, 1, 0, 0, 3), event(1, 2, 1, 1, 3)}
	put(t, l, early)
	put(t, l, first)
	if !slices.Equal(early.Deps[:4], []int{1, 1, 3, 88}) || !slices.Equal(first.Deps[:4], []int{0, 0, 3, 88}) {
		t.Error("an argument was changed:", early, first)
	}
	spoil(early, first)
	put(t, l, event(0, 1), event(0, 1))
	put(t, l, third, third)
	put(t, l, event(2, 2, 0, 0, 1), event(2, 2, 0, 0, 1))
	last, err := l.Put(event(2, 3, 0, 0, 2))
	if err != api.OK {
		t.Fatal(err)
	}
	all := slices.Concat([]api.Event{event(0, 1)}, fits, chain(2, 1, 3))
	wantEvents(t, "Put", last, []api.Event{all[5], fits[0], fits[1]})
	spoil(last...)
	clear(last[:cap(last)])
	for range 2 {
		wantLog(t, l, []int{1, 2, 3}, all, nil)
		after := l.After([]int{0, 0, 1}, 9)
		wantEvents(t, "After", after, slices.Concat(all[:3], all[4:]))
		spoil(after...)
		clear(after[:cap(after)])
		for e := range l.All() {
			spoil(e)
		}
		for _, e := range all {
			got, _ := l.Get(e.Dot)
			spoil(got)
		}
		clear(l.Applied())
		fork := l.Fork()
		for e := range fork.All() {
			spoil(e)
		}
	}
}

// Lists that are answered together share nothing with one another.
func TestAnswersShareNothing(t *testing.T) {
	l, all := some(t)
	one, two := l.After(nil, 9), slices.Collect(l.All())
	spoil(one...)
	wantEvents(t, "All", two, all)
	for at := range two {
		spoil(two[at])
		wantEvents(t, "All behind one that was spoilt", two[at+1:], all[at+1:])
	}
	put(t, l, event(3, 4, 0, 0, 0, 3))
	waiting := l.Waiting()
	clear(waiting[:cap(waiting)])
	wantLog(t, l, []int{3, 1, 0, 2}, all, pairs(0, 9, 2, 1, 3, 4))
}
