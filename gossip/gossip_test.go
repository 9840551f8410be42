package gossip_test

import (
	"math"
	"reflect"
	"slices"
	"testing"

	"pannier/api"
	"pannier/gossip"
	"pannier/replica"
)

func made(t *testing.T, node int) *replica.Replica {
	t.Helper()
	r, err := replica.New(node)
	if err != api.OK {
		t.Fatalf("New(%d): %d", node, err)
	}
	return r
}

// with is a replica of that node that made so many updates.
func with(t *testing.T, node, updates int) *replica.Replica {
	t.Helper()
	r := made(t, node)
	update(t, r, updates)
	return r
}

func update(t *testing.T, r *replica.Replica, updates int) {
	t.Helper()
	for range updates {
		if _, err := r.Update("c", "tea", 1, false); err != api.OK {
			t.Fatalf("Update: %d", err)
		}
	}
}

// event is an addition of 1 tea to the cart c.
func event(origin, seq int, deps ...int) api.Event {
	return api.Event{Dot: api.Dot{Origin: origin, Seq: seq}, Deps: deps, Cart: "c", Sku: "tea", Qty: 1}
}

func digest(from, to int, seen ...int) api.Msg {
	return api.Msg{Kind: api.MsgDigest, From: from, To: to, Entry: api.Entry{Noop: true}, Seen: seen}
}

func delta(from, to int, events ...api.Event) api.Msg {
	return api.Msg{Kind: api.MsgDelta, From: from, To: to, Entry: api.Entry{Noop: true}, Events: events}
}

// plain is m with no empty list, since nil is the same.
func plain(m api.Msg) api.Msg {
	if len(m.Seen) == 0 {
		m.Seen = nil
	}
	if len(m.Voted) == 0 {
		m.Voted = nil
	}
	m.Events = plainEvents(m.Events)
	return m
}

func plainEvents(l []api.Event) []api.Event {
	var out []api.Event
	for _, e := range l {
		e.Deps = append([]int(nil), e.Deps...)
		out = append(out, e)
	}
	return out
}

func wantMessages(t *testing.T, what string, got []api.Msg, wanted ...api.Msg) {
	t.Helper()
	if !slices.EqualFunc(got, wanted, func(a, b api.Msg) bool { return reflect.DeepEqual(plain(a), plain(b)) }) {
		t.Errorf("%s: %v, not %v", what, got, wanted)
	}
}

func wantTaken(t *testing.T, what string, r *replica.Replica, m api.Msg, refused int, wanted ...api.Event) {
	t.Helper()
	got, n := gossip.Take(r, m)
	if !reflect.DeepEqual(plainEvents(got), plainEvents(wanted)) || n != refused {
		t.Errorf("%s: %v, %d, not %v, %d", what, got, n, wanted, refused)
	}
}

func odd() []int {
	return []int{-1, 7, math.MinInt, math.MaxInt}
}

func TestDigest(t *testing.T) {
	wantMessages(t, "of nothing", []api.Msg{gossip.Digest(made(t, 0), 1)}, digest(0, 1))
	r := with(t, 2, 3)
	r.Take(event(0, 1))
	r.Take(event(4, 2, 0, 0, 0, 0, 1)) // it waits
	r.Learn(api.Seal{Token: "t", Cart: "c", Cut: []int{1}})
	for _, to := range append(odd(), 0, 1, 2, 6) {
		wantMessages(t, "of some", []api.Msg{gossip.Digest(r, to)}, digest(2, to, 1, 0, 3))
		if m := gossip.Digest(nil, to); !reflect.DeepEqual(plain(m), api.Msg{}) {
			t.Error("of a nil replica:", m)
		}
	}
}

func TestExample(t *testing.T) {
	a, b := with(t, 0, 20), made(t, 1)
	all := a.After(nil, 99)
	l := gossip.Answer(a, gossip.Digest(b, 0))
	wantMessages(t, "the first answer", l, delta(0, 1, all[:16]...))
	wantTaken(t, "the first delta", b, l[0], 0, all[:16]...)
	l = gossip.Answer(a, gossip.Digest(b, 0))
	wantMessages(t, "the second answer", l, delta(0, 1, all[16:]...))
	wantTaken(t, "the second delta", b, l[0], 0, all[16:]...)
	wantMessages(t, "there is no more", gossip.Answer(a, gossip.Digest(b, 0)))
	wantMessages(t, "nor back", gossip.Answer(b, gossip.Digest(a, 1)))
}

// A piece, a digest, both in this order, or nothing.
func TestAnswer(t *testing.T) {
	r := with(t, 1, 2)
	own := r.After(nil, 9)
	r.Take(event(3, 1, 0, 1))
	all := r.After(nil, 9)
	for _, x := range []struct {
		what   string
		seen   []int
		wanted []api.Msg
	}{
		{"of nothing", nil, []api.Msg{delta(1, 2, all...)}},
		{"of some", []int{0, 1}, []api.Msg{delta(1, 2, own[1], all[2])}},
		{"of all but one", []int{0, 2}, []api.Msg{delta(1, 2, all[2])}},
		{"of the same", []int{0, 2, 0, 1}, nil},
		{"of the same, with noughts", []int{0, 2, 0, 1, 0, 0, 0, 0, 0}, nil},
		{"of more", []int{0, 3, 0, 1}, []api.Msg{digest(1, 2, 0, 2, 0, 1)}},
		{"of more of another one", []int{1, 2, 0, 1}, []api.Msg{digest(1, 2, 0, 2, 0, 1)}},
		{"of others", []int{5}, []api.Msg{delta(1, 2, all...), digest(1, 2, 0, 2, 0, 1)}},
		{"of less and more", []int{0, 2, 1}, []api.Msg{delta(1, 2, all[2]), digest(1, 2, 0, 2, 0, 1)}},
		{"of less than nothing", []int{-3, -1, math.MinInt, 1}, []api.Msg{delta(1, 2, own...)}},
		{"of more than may be", []int{0, math.MaxInt, 0, 1}, []api.Msg{digest(1, 2, 0, 2, 0, 1)}},
		{"of nodes that there are not", []int{0, 2, 0, 1, 0, 0, 0, 0, 1}, []api.Msg{digest(1, 2, 0, 2, 0, 1)}},
	} {
		wantMessages(t, x.what, gossip.Answer(r, digest(2, 1, x.seen...)), x.wanted...)
		// What a digest is not for does not matter.
		m := digest(2, 1, x.seen...)
		m.Entry, m.Slot, m.Time, m.Ballot, m.Events = api.Entry{}, 7, 8, api.Ballot{Round: 1, Node: 1}, []api.Event{event(0, 1)}
		wantMessages(t, x.what, gossip.Answer(r, m), x.wanted...)
	}
}

func TestAnswerOfOtherMessages(t *testing.T) {
	r := with(t, 1, 2)
	wantMessages(t, "from 0", gossip.Answer(r, digest(0, 1)), delta(1, 0, r.After(nil, 9)...))
	for kind := -1; kind <= 12; kind++ {
		if m := digest(0, 1, 9); kind != api.MsgDigest {
			m.Kind = kind
			wantMessages(t, "of another kind", gossip.Answer(r, m))
		}
	}
	for _, to := range append(odd(), 0, 2, 6) {
		wantMessages(t, "for another one", gossip.Answer(r, digest(0, to, 9)))
	}
	wantMessages(t, "by itself", gossip.Answer(r, digest(1, 1, 9)))
	wantMessages(t, "an empty one", gossip.Answer(r, api.Msg{}))
	for node := range api.MaxNodes {
		wantMessages(t, "of a nil replica", gossip.Answer(nil, digest(1, node, 9)))
	}
	if v := r.Applied(); !slices.Equal(v, []int{0, 2}) {
		t.Error("Applied:", v)
	}
}

// All that is applied is told, also what waited; and what was refused is counted.
func TestTake(t *testing.T) {
	r := with(t, 1, 1)
	wantTaken(t, "of nothing", r, delta(0, 1), 0)
	wantTaken(t, "one that waits", r, delta(0, 1, event(0, 2, 1)), 0)
	wantTaken(t, "one that is there, or waits, its own, and such that may not be", r,
		delta(0, 1, event(0, 2, 1), event(1, 1), event(1, 2, 0, 1), event(0, 0), event(7, 1), api.Event{}, event(2, 1, 0, 1)), 6, event(2, 1, 0, 1))
	wantTaken(t, "by which more is applied", r, delta(2, 1, event(0, 1), event(0, 2, 1), event(3, 1, 5), event(2, 2, 0, 0, 1)), 1,
		event(0, 1), event(0, 2, 1), event(2, 2, 0, 0, 1))
	wantTaken(t, "in the wrong order", r, delta(2, 1, event(5, 3, 0, 0, 0, 0, 0, 2), event(5, 2, 0, 0, 0, 0, 0, 1), event(5, 1)), 0,
		event(5, 1), event(5, 2, 0, 0, 0, 0, 0, 1), event(5, 3, 0, 0, 0, 0, 0, 2))
	if v := r.Applied(); !slices.Equal(v, []int{2, 1, 2, 0, 0, 3}) || r.Waiting() != 1 {
		t.Error("Applied:", v, r.Waiting())
	}
	for _, m := range []api.Msg{delta(0, 1, event(0, 1), event(0, 2, 1)), delta(4, 1, event(2, 1, 0, 1), event(3, 1, 5))} {
		wantTaken(t, "once more", r, m, 2)
	}
	// What a delta is not for does not matter.
	m := delta(0, 1, event(4, 1))
	m.Entry, m.Slot, m.Time, m.Seen = api.Entry{}, 7, 8, []int{9, 9}
	wantTaken(t, "with other parts", r, m, 0, event(4, 1))
}

// A delta may have more events than a piece.
func TestTakeOfMany(t *testing.T) {
	a, b := with(t, 0, 100), made(t, 1)
	all := a.After(nil, 100)
	wantTaken(t, "many", b, delta(0, 1, all...), 0, all...)
	wantTaken(t, "many once more", b, delta(0, 1, all...), 100)
}

func TestTakeOfOtherMessages(t *testing.T) {
	r := made(t, 1)
	for kind := -1; kind <= 12; kind++ {
		if m := delta(0, 1, event(0, 1), event(1, 1)); kind != api.MsgDelta {
			m.Kind = kind
			wantTaken(t, "of another kind", r, m, 0)
		}
	}
	for _, to := range append(odd(), 0, 2, 6) {
		wantTaken(t, "for another one", r, delta(0, to, event(0, 1), event(1, 1)), 0)
	}
	wantTaken(t, "by itself", r, delta(1, 1, event(0, 1), event(1, 1)), 0)
	for node := range api.MaxNodes {
		wantTaken(t, "of a nil replica", nil, delta(1, node, event(1, 1)), 0)
	}
	if len(r.Applied()) != 0 || r.Waiting() != 0 {
		t.Error("Applied:", r.Applied(), r.Waiting())
	}
}

func TestFetch(t *testing.T) {
	r := with(t, 1, 2)
	r.Take(event(0, 1))
	for _, v := range [][]int{nil, {}, {0}, {1}, {1, 2}, {0, 2, 0}, {1, 2, 0, 0, 0, 0, 0, 0, 0}, {-1, -1, -1}} {
		for _, to := range append(odd(), 0, 1, 6) {
			if m, is := gossip.Fetch(r, v, to); !reflect.DeepEqual(plain(m), api.Msg{}) || is {
				t.Errorf("Fetch(%v, %d), all of which is there: %v, %v", v, to, m, is)
			}
		}
	}
	for _, v := range [][]int{{2}, {0, 3}, {1, 2, 1}, {0, 0, 0, 0, 0, 0, 0, 1}, {-1, math.MaxInt}} {
		for _, to := range append(odd(), 0, 1, 6) {
			m, is := gossip.Fetch(r, v, to)
			wantMessages(t, "Fetch", []api.Msg{m}, digest(1, to, 1, 2))
			if !is {
				t.Errorf("Fetch(%v, %d): %v", v, to, is)
			}
		}
	}
	for _, v := range [][]int{nil, {1}} {
		if m, is := gossip.Fetch(nil, v, 3); !reflect.DeepEqual(plain(m), api.Msg{}) || is != (len(v) > 0) {
			t.Errorf("of a nil replica: %v, %v", m, is)
		}
	}
}

// What is handed in is neither changed nor kept, and what is answered is nobody else's.
func TestNothingIsShared(t *testing.T) {
	r, other := with(t, 1, 3), with(t, 0, 2)
	room := []int{0, 1, 9, 9}
	in := digest(2, 1, room[:2]...)
	for range 2 {
		l := gossip.Answer(r, in)
		if len(l) != 1 || !slices.Equal(room, []int{0, 1, 9, 9}) {
			t.Fatal("Answer:", l, room)
		}
		l[0].Events[0].Deps[1] = 9
		l[0].Events[1] = api.Event{}
		both := gossip.Answer(r, digest(2, 1, 5))
		both[1].Seen[1] = 9
		_ = append(both[1].Seen[:1], 8, 8)
		d := gossip.Digest(r, 0)
		d.Seen[1] = 9
		f, _ := gossip.Fetch(r, []int{5}, 0)
		f.Seen[1] = 9
	}
	m := delta(0, 1, other.After(nil, 9)...)
	got, _ := gossip.Take(r, m)
	got[1].Deps[0] = 9
	if m.Events[1].Deps[0] != 1 {
		t.Error("Take answers what it was handed")
	}
	m.Events[1].Deps[0] = 8
	wanted := append(other.After(nil, 9), with(t, 1, 3).After(nil, 9)...)
	wantMessages(t, "what there is", gossip.Answer(r, digest(2, 1)), delta(1, 2, wanted...))
}
