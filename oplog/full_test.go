package oplog_test

import (
	"slices"
	"testing"

	"pannier/api"
	"pannier/oplog"
)

// applied is a log in which the first n events of the origin 0 are applied.
func applied(t *testing.T, n int) *oplog.Log {
	t.Helper()
	l := oplog.New()
	for _, e := range chain(0, 1, n) {
		if got, err := l.Put(e); len(got) != 1 || err != api.OK {
			t.Fatalf("Put(%v): %v, %d", e, got, err)
		}
	}
	return l
}

// MaxDots events are applied, and then none is taken any more, nor waits.
func TestAppliedIsFull(t *testing.T) {
	l := applied(t, api.MaxDots-1)
	put(t, l, event(3, 9, 0, 0, 0, 8))
	put(t, l, event(5, 1), event(5, 1))
	for _, full := range []*oplog.Log{l, l.Fork()} {
		for _, e := range wrongEvents() {
			refuse(t, full, e, api.ErrEvent)
		}
		for _, e := range []api.Event{event(0, 1), event(0, api.MaxDots-1, api.MaxDots-2), event(5, 1), event(3, 9, 0, 0, 0, 8)} {
			refuse(t, full, e, api.ErrTwice)
		}
		for _, e := range []api.Event{event(0, api.MaxDots, api.MaxDots-1), event(1, 1), event(1, 5, 0, 4), event(6, 1, 4)} {
			refuse(t, full, e, api.ErrFull)
		}
		if v := full.Applied(); !slices.Equal(v, []int{api.MaxDots - 1, 0, 0, 0, 0, 1}) {
			t.Error("Applied:", v)
		}
		if w := full.Waiting(); !slices.Equal(w, pairs(3, 9)) {
			t.Error("Waiting:", w)
		}
		if n := len(full.After(nil, 2*api.MaxDots)); n != api.MaxDots {
			t.Error("After:", n)
		}
	}
}

// What waits is applied as long as there is room; the rest still waits.
func TestRoomEnds(t *testing.T) {
	l := applied(t, api.MaxDots-4)
	for _, e := range []api.Event{event(2, 1, 0, 0, 0, 1), event(1, 2, 0, 1), event(1, 1, 0, 0, 0, 1), event(4, 1, 0, 0, 0, 1), event(1, 3, 0, 2)} {
		put(t, l, e)
	}
	put(t, l, event(3, 1), event(3, 1), event(1, 1, 0, 0, 0, 1), event(1, 2, 0, 1), event(1, 3, 0, 2))
	if v := l.Applied(); !slices.Equal(v, []int{api.MaxDots - 4, 3, 0, 1}) {
		t.Error("Applied:", v)
	}
	if w := l.Waiting(); !slices.Equal(w, pairs(2, 1, 4, 1)) {
		t.Error("Waiting:", w)
	}
	refuse(t, l, event(2, 1, 0, 0, 0, 1), api.ErrTwice)
	refuse(t, l, event(5, 1), api.ErrFull)
	if _, is := l.Get(api.Dot{Origin: 2, Seq: 1}); is {
		t.Error("what waits is told as applied")
	}
}

// MaxWaits events wait, and then none more; but one that is ready is applied, and makes room.
func TestWaitingIsFull(t *testing.T) {
	l := oplog.New()
	early := chain(1, 2, api.MaxWaits+1)
	for _, e := range slices.Backward(early) {
		put(t, l, e)
	}
	for _, full := range []*oplog.Log{l, l.Fork()} {
		for _, e := range wrongEvents() {
			refuse(t, full, e, api.ErrEvent)
		}
		refuse(t, full, early[0], api.ErrTwice)
		refuse(t, full, early[api.MaxWaits-1], api.ErrTwice)
		for _, e := range []api.Event{event(1, api.MaxWaits+2, 0, api.MaxWaits+1), event(0, 2, 1), event(2, 1, 0, 1)} {
			refuse(t, full, e, api.ErrFull)
		}
		if w := full.Waiting(); len(w) != api.MaxWaits || w[0].Seq != 2 || w[api.MaxWaits-1].Seq != api.MaxWaits+1 {
			t.Error("Waiting:", len(w))
		}
		put(t, full, event(0, 1), event(0, 1))
		put(t, full, event(1, 1), slices.Concat([]api.Event{event(1, 1)}, early)...)
		wantLog(t, full, []int{1, api.MaxWaits + 1}, slices.Concat(chain(0, 1, 1), chain(1, 1, api.MaxWaits+1)), nil)
		put(t, full, event(0, 3, 2))
	}
}

// With one place less than MaxWaits taken, one more waits.
func TestLastPlaceToWait(t *testing.T) {
	l := oplog.New()
	for _, e := range chain(6, 2, api.MaxWaits) {
		put(t, l, e)
	}
	put(t, l, event(0, 3, 2))
	refuse(t, l, event(0, 2, 1), api.ErrFull)
	if w := l.Waiting(); len(w) != api.MaxWaits || w[0] != (api.Dot{Origin: 0, Seq: 3}) {
		t.Error("Waiting:", len(w), w[0])
	}
}
