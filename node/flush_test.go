package node_test

import (
	"testing"

	"pannier/api"
	"pannier/node"
)

// All leaves in the order in which it was held back.
func TestFlushInOrder(t *testing.T) {
	n, _ := fresh(t, 3, 1)
	call(t, n, update(1, "c", "tea", 1))
	n.Gossip(2)
	call(t, n, read(2, "c"))
	n.Elect()
	call(t, n, checkout(3, "c", "t"))
	n.Gossip(0)
	if n.Held() != 8 {
		t.Error(n.Held(), "held back")
	}
	b := ballot(1, 1)
	out := flush(t, n)
	wantSame(t, "in order", out, []api.Out{
		{IsAnswer: true, Answer: api.Answer{Id: 1, Dot: api.Dot{Origin: 1, Seq: 1}, Applied: []int{0, 1}}},
		{Msg: digest(1, 2, 0, 0, 1)},
		{IsAnswer: true, Answer: api.Answer{Id: 2, Lines: tea(1), Applied: []int{0, 1}}},
		{Msg: inBallot(api.MsgPrepare, 1, 0, b, 0)},
		{Msg: inBallot(api.MsgPrepare, 1, 2, b, 0)},
		{IsAnswer: true, Answer: api.Answer{Id: 3, Err: api.ErrNone, Applied: []int{0, 1}}},
		{Msg: digest(1, 0, 0, 0, 1)},
	})
	if n.Held() != 0 || len(flush(t, n)) != 0 {
		t.Error("told twice")
	}
}

// What comes of a node's own messages waits for the next Flush.
func TestFlushToItself(t *testing.T) {
	n, d := fresh(t, 1, 0)
	n.Elect()
	if n.Held() != 1 || n.Phase() != api.PhasePreparing {
		t.Error("held", n.Held(), "phase", n.Phase())
	}
	if out := flush(t, n); len(out) != 0 || n.Phase() != api.PhaseLeading || n.Held() != 0 {
		t.Error(out, n.Phase(), n.Held())
	}
	call(t, n, checkout(1, "c", "t"))
	if len(n.Votes()) != 1 || len(n.Entries()) != 0 {
		t.Error("its own vote comes at once, its answer does not")
	}
	if out := flush(t, n); len(out) != 0 || len(n.Entries()) != 1 || n.Held() != 1 {
		t.Error(out, n.Entries(), n.Held())
	}
	// The entry is not sure yet, and so not told.
	torn := d.Fork()
	torn.Crash(nil)
	if m := start(t, config(1), 0, torn, 0); len(m.Entries()) != 0 || len(m.Votes()) != 1 {
		t.Error("sure ahead of the Flush:", m.Entries(), m.Votes())
	}
	wantAnswers(t, "an order", n, api.Answer{Id: 1, Order: order(1, "t", "c", 0), Known: true, Learned: 1})
	d.Crash(nil)
	if m := start(t, config(1), 0, d, 0); len(m.Entries()) != 1 {
		t.Error("told, and not sure")
	}
}

// A node refuses itself like any other one.
func TestNackToItself(t *testing.T) {
	n, _ := fresh(t, 3, 1)
	leads(t, n, 3, 1)
	n.On(inBallot(api.MsgPrepare, 0, 1, ballot(5, 0), 0))
	call(t, n, checkout(1, "c", "t"))
	call(t, n, status(2, "t"))
	if len(n.Votes()) != 0 || n.Phase() != api.PhaseLeading {
		t.Error(n.Votes(), n.Phase())
	}
	flush(t, n)
	if n.Phase() != api.PhaseIdle || n.Waits() != 1 {
		t.Error("phase", n.Phase(), n.Waits(), "wait")
	}
	wantAnswers(t, "leads no more", n, api.Answer{Id: 2, Err: api.ErrNone})
}

// Where the store cannot be made sure nothing leaves, and all is held back on.
func TestFlushOff(t *testing.T) {
	n, d := fresh(t, 3, 1)
	call(t, n, update(1, "c", "tea", 1))
	n.Elect()
	d.Stop(0)
	for range 2 {
		if out, err := n.Flush(); out != nil || err != api.ErrOff || n.Held() != 4 || n.Phase() != api.PhasePreparing {
			t.Error(out, err, n.Held())
		}
	}
	d.Crash(nil) // of that nothing was sure
	if m := start(t, config(3), 1, d, 0); len(m.Events()) != 0 || m.Promised() != (api.Ballot{}) {
		t.Error("there is", m.Events(), m.Promised())
	}
	// A Flush is one Sync, also of nothing.
	n, d = fresh(t, 3, 1)
	call(t, n, update(1, "c", "tea", 1))
	d.Stop(2)
	flush(t, n)
	flush(t, n)
	if !d.Off() {
		t.Error("not synced")
	}
	// Without a log there is nothing to sync.
	n, d = fresh(t, 3, 1)
	d.Stop(0)
	call(t, n, read(1, "c"))
	wantAnswers(t, "a read", n, api.Answer{Id: 1})
}

// spoil overwrites all lists of what leaves, with their room.
func spoil(out []api.Out) {
	ints := func(l []int) {
		l = l[:cap(l)]
		for i := range l {
			l[i] = 77
		}
	}
	out = out[:cap(out)]
	for i := range out {
		a, m := out[i].Answer, out[i].Msg
		ints(a.Applied)
		ints(a.Order.Cut)
		clear(a.Lines[:cap(a.Lines)])
		ints(m.Seen)
		ints(m.Entry.Seal.Cut)
		for _, v := range m.Voted {
			ints(v.Entry.Seal.Cut)
		}
		clear(m.Voted[:cap(m.Voted)])
		for _, e := range m.Events {
			ints(e.Deps)
		}
		clear(m.Events[:cap(m.Events)])
		out[i] = api.Out{}
	}
}

// What leaves is nobody else's: one list of it changes no other one, nor the node.
func TestMemoryOfWhatLeaves(t *testing.T) {
	scene := func(spoiling bool) (*node.Node, string) {
		n, _ := fresh(t, 3, 1)
		told := ""
		leave := func() {
			out := flush(t, n)
			for i := range out { // each behind the ones ahead of it were spoilt
				told += string(show(out[i]))
				if spoiling {
					spoil(out[i : i+1 : i+1])
				}
			}
		}
		call(t, n, update(1, "c", "tea", 2))
		call(t, n, update(2, "c", "tea", 3))
		n.On(delta(0, 1, adds(0, 1, 1, 0, 1), adds(2, 1, 4, 0, 2)))
		leave()
		leads(t, n, 3, 1)
		b := n.Promised()
		call(t, n, checkout(3, "c", "t"))
		call(t, n, checkout(4, "c", "t"))
		leave()
		n.Again()
		leave()
		accepted(n, 3, 1, b, 0)
		leave()
		call(t, n, checkout(5, "c", "t"))
		call(t, n, read(6, "c"))
		n.On(digest(0, 1, 0))
		n.On(digest(2, 1, 0, 1))
		n.On(digest(2, 1, 5, 9))
		n.Gossip(0)
		n.On(inBallot(api.MsgPrepare, 0, 1, ballot(7, 0), 0))
		leave()
		for _, l := range [][]int{n.Applied()} {
			for i := range l[:cap(l)] {
				l[:cap(l)][i] = 77
			}
		}
		if spoiling {
			for _, e := range n.Events() {
				spoil([]api.Out{{Msg: api.Msg{Events: []api.Event{e}}}})
			}
			for _, e := range n.Entries() {
				spoil([]api.Out{{Msg: api.Msg{Entry: e}}})
			}
			spoil([]api.Out{{Msg: api.Msg{Voted: n.Votes()}}})
		}
		return n, told
	}
	right, wanted := scene(false)
	n, told := scene(true)
	if told != wanted {
		t.Errorf("told:\n%s\nnot\n%s", told, wanted)
	}
	wantState(t, "spoilt", n, right)
}

func show(o api.Out) []byte {
	return []byte(stateOf(o) + "\n")
}
