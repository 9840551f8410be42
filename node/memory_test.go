package node_test

import (
	"testing"

	"pannier/api"
	"pannier/node"
)

// roomy is a list with more behind its end.
func roomy(l ...int) []int {
	return append(append(make([]int, 0, len(l)+2), l...), 55, 56)[:len(l)]
}

// wild overwrites a list with its room, and looks ahead whether the room was left alone.
func wild(t *testing.T, l []int) {
	t.Helper()
	l = l[:cap(l)]
	if len(l) < 2 || l[len(l)-2] != 55 || l[len(l)-1] != 56 {
		t.Error("what lies behind a list's end was changed:", l)
	}
	for i := range l {
		l[i] = 99
	}
}

// What is handed in is not changed, and not kept.
func TestMemoryOfMessages(t *testing.T) {
	scene := func(spoil bool) *node.Node {
		n, d := fresh(t, 3, 1)
		give := func(m api.Msg) {
			before := stateOf(m)
			n.On(m)
			if stateOf(m) != before {
				t.Error("a message was changed:", m)
			}
			if !spoil {
				return
			}
			if m.Seen != nil {
				wild(t, m.Seen)
			}
			if m.Entry.Seal.Cut != nil {
				wild(t, m.Entry.Seal.Cut)
			}
			for _, v := range m.Voted {
				wild(t, v.Entry.Seal.Cut)
			}
			for i, e := range m.Events {
				wild(t, e.Deps)
				m.Events[i] = api.Event{}
			}
		}
		early := adds(0, 3, 4)
		early.Deps = roomy(2)
		first, second := adds(0, 1, 1), adds(0, 2, 2)
		first.Deps, second.Deps = roomy(), roomy(1)
		give(delta(0, 1, early, first))
		give(accept(0, 1, ballot(1, 0), 0, sealed("t", "c", 0, roomy(1)...)))
		seen := digest(0, 1, 3)
		seen.Seen = roomy(4)
		give(seen)
		e := sealed("t", "c", 0)
		e.Seal.Cut = roomy(1)
		give(accept(0, 1, ballot(1, 0), 1, e))
		e.Seal.Cut = roomy(1)
		give(chosen(0, 1, 0, e))
		n.Elect()
		flush(t, n)
		promise := inBallot(api.MsgPromise, 0, 1, ballot(2, 1), 1)
		e = sealed("v", "d", 0)
		e.Seal.Cut = roomy(2)
		promise.Voted = []api.Voted{{Slot: 2, Ballot: ballot(1, 2), Entry: e}}
		give(promise)
		n.Compact()
		give(delta(0, 1, second))
		wantLasting(t, "messages", config(3), 1, n, d)
		return n
	}
	right, n := scene(false), scene(true)
	wantState(t, "spoilt", n, right)
	wantSame(t, "what leaves", flush(t, n), flush(t, right))
	if len(n.Events()) != 3 || n.Phase() != api.PhaseLeading {
		t.Error(n.Events(), n.Phase())
	}
}
