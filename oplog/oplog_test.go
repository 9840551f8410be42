package oplog_test

import (
	"math"
	"reflect"
	"slices"
	"strings"
	"testing"

	"pannier/api"
	"pannier/oplog"
)

// pairs are dots, each an origin and a number.
func pairs(numbers ...int) []api.Dot {
	var l []api.Dot
	for pair := range slices.Chunk(numbers, 2) {
		l = append(l, api.Dot{Origin: pair[0], Seq: pair[1]})
	}
	return l
}

// event is one that may be, if its dot may be, and deps say of its origin what they must; those of other dots differ.
func event(origin, seq int, deps ...int) api.Event {
	return api.Event{
		Dot: api.Dot{Origin: origin, Seq: seq}, Deps: deps, Cart: "c-" + string(rune('h'+origin%7)),
		Epoch: seq % 5, Sku: "tea", Qty: (7*seq + origin) % (api.MaxQty + 1), Clears: seq%2 == 0,
	}
}

// chain are the events of one origin that saw no other one, from the number first on.
func chain(origin, first, last int) []api.Event {
	var l []api.Event
	for seq := first; seq <= last; seq++ {
		var deps []int
		if seq > 1 {
			deps = make([]int, origin+1)
			deps[origin] = seq - 1
		}
		l = append(l, event(origin, seq, deps...))
	}
	return l
}

func sameEvent(a, b api.Event) bool {
	if !slices.Equal(a.Deps, b.Deps) {
		return false
	}
	a.Deps, b.Deps = nil, nil
	return reflect.DeepEqual(a, b)
}

func wantEvents(t *testing.T, what string, got, wanted []api.Event) {
	t.Helper()
	if !slices.EqualFunc(got, wanted, sameEvent) {
		t.Errorf("%s: %v, not %v", what, got, wanted)
	}
}

// put puts e, which must be taken, and looks whether just those are applied by it.
func put(t *testing.T, l *oplog.Log, e api.Event, wanted ...api.Event) {
	t.Helper()
	got, err := l.Put(e)
	if err != api.OK {
		t.Fatalf("Put(%v): %d", e, err)
	}
	wantEvents(t, "Put", got, wanted)
}

// refuse puts e, which must be refused with that error.
func refuse(t *testing.T, l *oplog.Log, e api.Event, wanted api.Errno) {
	t.Helper()
	if got, err := l.Put(e); len(got) != 0 || err != wanted {
		t.Errorf("Put(%v): %v, %d, not %d", e.Dot, got, err, wanted)
	}
}

// wantLog looks whether just those events are applied, and those dots wait.
func wantLog(t *testing.T, l *oplog.Log, applied []int, events []api.Event, waiting []api.Dot) {
	t.Helper()
	if v := l.Applied(); !slices.Equal(v, applied) {
		t.Errorf("Applied: %v, not %v", v, applied)
	}
	if w := l.Waiting(); !slices.Equal(w, waiting) {
		t.Errorf("Waiting: %v, not %v", w, waiting)
	}
	wantAll(t, l.All(), events)
	for _, e := range events {
		if got, is := l.Get(e.Dot); !sameEvent(got, e) || !is {
			t.Errorf("Get(%v): %v, %v", e.Dot, got, is)
		}
	}
	for _, d := range waiting {
		if got, is := l.Get(d); !reflect.DeepEqual(got, api.Event{}) || is {
			t.Errorf("Get(%v), which waits: %v, %v", d, got, is)
		}
	}
}

func TestNew(t *testing.T) {
	l := oplog.New()
	wantLog(t, l, nil, nil, nil)
	if got := l.After(nil, 5); len(got) != 0 {
		t.Error("After:", got)
	}
	if e, is := l.Get(api.Dot{Origin: 0, Seq: 1}); !reflect.DeepEqual(e, api.Event{}) || is {
		t.Error("Get:", e, is)
	}
	if l == oplog.New() {
		t.Error("New answers one log twice")
	}
}

func TestMay(t *testing.T) {
	may := []api.Event{
		event(0, 1), event(6, 1), event(0, 2, 1), event(1, 1, 5), event(1, 1, 5, 0, 3), event(1, 2, 0, 1), event(1, 2, 7, 1, 9),
		event(6, 1, 1, 2, 3, 4, 5, 6), event(6, 8, 1, 2, 3, 4, 5, 6, 7), event(0, api.MaxSeq, api.MaxSeq-1),
		event(2, 1, api.MaxSeq, api.MaxSeq, 0, api.MaxSeq),
		{Dot: api.Dot{Origin: 0, Seq: 1}, Deps: []int{}, Cart: strings.Repeat("x", 32), Epoch: api.MaxSeq, Sku: "-", Qty: 1000, Clears: true},
	}
	for _, e := range may {
		if !oplog.May(e) {
			t.Errorf("%v may be", e)
		}
	}
	for _, e := range wrongEvents() {
		if oplog.May(e) {
			t.Errorf("%v may not be", e)
		}
	}
}

// wrongEvents are such that may not be.
func wrongEvents() []api.Event {
	wrong := []api.Event{
		{},
		event(0, 0), event(0, -1), event(0, math.MinInt), event(-1, 1), event(7, 1), event(math.MaxInt, 1), event(math.MinInt, 1),
		event(0, 2), event(0, 2, 2), event(0, 1, 1), event(0, 3, 1), event(1, 2), event(1, 2, 1), event(1, 1, 0, 1), event(1, 3, 0, 3),
		event(0, 2, 0, 1), event(6, 2, 1, 1, 1, 1, 1, 1), event(0, 1, 0, 0, 0), event(0, 1, 0), event(0, 2, 1, 0),
		event(0, 1, 0, -1), event(0, 0, -1), event(0, 1, 0, api.MaxSeq+1), event(0, 1, 0, math.MaxInt),
		event(0, api.MaxSeq+1, api.MaxSeq), event(0, 1, 0, 1, 1, 1, 1, 1, 1, 1), event(7, 2, 0, 0, 0, 0, 0, 0, 0, 1),
	}
	for _, name := range []string{"", "A", "a b", strings.Repeat("x", 33), "é"} {
		cart, sku := event(0, 1), event(0, 1)
		cart.Cart, sku.Sku = name, name
		wrong = append(wrong, cart, sku)
	}
	for _, n := range []int{-1, math.MinInt, math.MaxInt} {
		qty, epoch := event(0, 1), event(0, 1)
		qty.Qty, epoch.Epoch = n, n
		wrong = append(wrong, qty, epoch)
	}
	qty, epoch := event(0, 1), event(0, 1)
	qty.Qty, epoch.Epoch = api.MaxQty+1, api.MaxSeq+1
	return append(wrong, qty, epoch)
}

// An event that may not be is refused, whatever there is; and nothing is changed by it.
func TestPutOfWrongEvents(t *testing.T) {
	empty, l := oplog.New(), oplog.New()
	put(t, l, event(0, 1), event(0, 1))
	put(t, l, event(1, 2, 0, 1))
	for _, e := range wrongEvents() {
		refuse(t, empty, e, api.ErrEvent)
		refuse(t, l, e, api.ErrEvent)
	}
	wantLog(t, empty, nil, nil, nil)
	wantLog(t, l, []int{1}, []api.Event{event(0, 1)}, pairs(1, 2))
}

func TestExample(t *testing.T) {
	l := oplog.New()
	put(t, l, event(0, 2, 1))
	wantLog(t, l, nil, nil, pairs(0, 2))
	put(t, l, event(0, 1), event(0, 1), event(0, 2, 1))
	wantLog(t, l, []int{2}, chain(0, 1, 2), nil)
}

// An event waits for those of its own origin, and for all that its origin had seen.
func TestWaits(t *testing.T) {
	l := oplog.New()
	early := event(2, 2, 1, 2, 1)
	put(t, l, early)
	put(t, l, event(1, 1), event(1, 1))
	put(t, l, event(2, 1), event(2, 1))
	put(t, l, event(0, 1), event(0, 1))
	wantLog(t, l, []int{1, 1, 1}, []api.Event{event(0, 1), event(1, 1), event(2, 1)}, pairs(2, 2))
	put(t, l, event(1, 2, 1, 1, 1), event(1, 2, 1, 1, 1), early)
	wantLog(t, l, []int{1, 2, 2}, []api.Event{event(0, 1), event(1, 1), event(1, 2, 1, 1, 1), event(2, 1), early}, nil)
}

// Deps of an origin whose events are all there, but of another one's that are not.
func TestWaitsForAnotherOrigin(t *testing.T) {
	l := oplog.New()
	put(t, l, event(0, 1, 0, 0, 0, 1))
	put(t, l, event(0, 2, 1, 0, 0, 1))
	put(t, l, event(0, 4, 3))
	wantLog(t, l, nil, nil, pairs(0, 1, 0, 2, 0, 4))
	put(t, l, event(3, 1), event(3, 1), event(0, 1, 0, 0, 0, 1), event(0, 2, 1, 0, 0, 1))
	put(t, l, event(0, 3, 2), event(0, 3, 2), event(0, 4, 3))
	wantLog(t, l, []int{4, 0, 0, 1}, []api.Event{event(0, 1, 0, 0, 0, 1), event(0, 2, 1, 0, 0, 1), event(0, 3, 2), event(0, 4, 3), event(3, 1)}, nil)
}

// Of those that wait and are ready the one of the least origin comes next, each time anew.
func TestLeastOriginFirst(t *testing.T) {
	l := oplog.New()
	a := event(5, 1, 0, 0, 0, 1)
	b := event(1, 1, 0, 0, 0, 1)
	c := event(2, 1, 0, 1)
	d := event(1, 2, 0, 1, 0, 1)
	e := event(0, 1, 0, 1, 1)
	f := event(0, 2, 1)
	g := event(4, 1, 0, 0, 0, 1)
	for _, x := range []api.Event{f, e, g, d, c, b, a} {
		put(t, l, x)
	}
	wantLog(t, l, nil, nil, pairs(0, 1, 0, 2, 1, 1, 1, 2, 2, 1, 4, 1, 5, 1))
	put(t, l, event(3, 1), event(3, 1), b, d, c, e, f, g, a)
	wantLog(t, l, []int{2, 2, 1, 1, 1, 1}, []api.Event{e, f, b, d, c, event(3, 1), g, a}, nil)
}

// What is there, applied or waiting, is refused; also, if it says something else.
func TestTwice(t *testing.T) {
	l := oplog.New()
	put(t, l, event(0, 1), event(0, 1))
	put(t, l, event(0, 3, 2))
	put(t, l, event(1, 1, 9))
	other := event(1, 1)
	other.Sku = "milk"
	for _, e := range []api.Event{event(0, 1), event(0, 1, 0, 5), event(0, 3, 2), event(0, 3, 2, 8), event(1, 1, 9), other} {
		refuse(t, l, e, api.ErrTwice)
	}
	wantLog(t, l, []int{1}, []api.Event{event(0, 1)}, pairs(0, 3, 1, 1))
	put(t, l, event(0, 2, 1), event(0, 2, 1), event(0, 3, 2))
	for _, e := range chain(0, 1, 3) {
		refuse(t, l, e, api.ErrTwice)
	}
	wantLog(t, l, []int{3}, chain(0, 1, 3), pairs(1, 1))
}

// A Fork goes its own way, and so does what it came from.
func TestFork(t *testing.T) {
	l := oplog.New()
	put(t, l, event(0, 1), event(0, 1))
	put(t, l, event(1, 2, 0, 1))
	fork := l.Fork()
	wantLog(t, fork, []int{1}, chain(0, 1, 1), pairs(1, 2))
	put(t, fork, event(1, 1), event(1, 1), event(1, 2, 0, 1))
	put(t, fork, event(0, 3, 2))
	wantLog(t, l, []int{1}, chain(0, 1, 1), pairs(1, 2))
	other := event(1, 1, 1)
	put(t, l, other, other, event(1, 2, 0, 1))
	put(t, l, event(6, 5, 0, 0, 0, 0, 0, 0, 4))
	wantLog(t, l, []int{1, 2}, []api.Event{event(0, 1), other, event(1, 2, 0, 1)}, pairs(6, 5))
	wantLog(t, fork, []int{1, 2}, []api.Event{event(0, 1), event(1, 1), event(1, 2, 0, 1)}, pairs(0, 3))
	empty := oplog.New()
	second := empty.Fork()
	put(t, empty, event(0, 1), event(0, 1))
	put(t, second, event(0, 2, 1))
	wantLog(t, empty, []int{1}, chain(0, 1, 1), nil)
	wantLog(t, second, nil, nil, pairs(0, 2))
}

// Of a log that no call made.
func TestNil(t *testing.T) {
	for _, l := range []*oplog.Log{nil, {}} {
		for _, e := range append(wrongEvents(), event(0, 1), event(0, 2, 1)) {
			refuse(t, l, e, api.ErrClosed)
		}
		if l.Applied() != nil || l.Waiting() != nil || l.After(nil, 9) != nil || l.Fork() != nil {
			t.Error("of a nil log:", l.Applied(), l.Waiting(), l.After(nil, 9), l.Fork())
		}
		if e, is := l.Get(api.Dot{Origin: 0, Seq: 1}); !reflect.DeepEqual(e, api.Event{}) || is {
			t.Error("Get:", e, is)
		}
		for e := range l.All() {
			t.Error("All goes over", e)
		}
	}
}
