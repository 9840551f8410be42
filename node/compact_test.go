package node_test

import (
	"strings"
	"testing"

	"pannier/api"
	"pannier/disk"
	"pannier/node"
)

// full is a node 1 of three of which all parts have something: events, also such that wait; promises, votes of
// several ballots; entries, also beyond gaps.
func full(t *testing.T, c api.Config, d *disk.Disk) *node.Node {
	t.Helper()
	n := start(t, c, 1, d, 0)
	call(t, n, update(1, "c", "tea", 1))
	n.On(delta(0, 1, adds(0, 1, 2, 0, 1), adds(2, 1, 4, 1, 1)))
	call(t, n, update(2, "c", "tea", 8))
	n.On(delta(0, 1, adds(0, 2, 16, 1, 0, 1), adds(2, 4, 32, 0, 0, 3), adds(0, 4, 64, 3, 0, 4)))
	n.On(inBallot(api.MsgPrepare, 0, 1, ballot(1, 0), 0))
	n.On(accept(0, 1, ballot(3, 0), 5, sealed("x", "d", 0)))
	n.On(accept(0, 1, ballot(3, 0), 4, sealed("y", "d", 1, 1)))
	n.On(accept(2, 1, ballot(4, 2), 0, noop()))
	n.On(inBallot(api.MsgPrepare, 2, 1, ballot(6, 2), 0))
	n.On(chosen(0, 1, 1, sealed("t", "c", 0, 1, 1)))
	n.On(chosen(0, 1, 4, sealed("v", "c", 1, 1, 2)))
	n.On(chosen(0, 1, 0, sealed("s", "d", 0)))
	flush(t, n)
	return n
}

// goOn brings what full's events and entries wait for.
func goOn(n *node.Node) {
	n.On(delta(0, 1, adds(2, 2, 128, 0, 0, 1), adds(2, 3, 256, 0, 0, 2), adds(0, 3, 512, 2)))
	n.On(chosen(0, 1, 2, noop()))
	n.On(chosen(0, 1, 3, noop()))
}

func TestCompact(t *testing.T) {
	c := config(3)
	d := newDisk(t, c.Disk)
	n := full(t, c, d)
	wantLasting(t, "ahead", c, 1, n, d)
	before, held := state(n), n.Held()
	for round := range 3 {
		if err := n.Compact(); err != api.OK {
			t.Fatal("Compact:", err)
		}
		if state(n) != before || n.Held() != held {
			t.Error("Compact changed the node")
		}
		d.Crash(nil)
		m := start(t, c, 1, d, 0)
		if state(m) != before {
			t.Errorf("round %d: behind a crash:\n%s\nnot\n%s", round, state(m), before)
		}
		n = m
	}
	// Also what waits is there.
	other := full(t, c, newDisk(t, c.Disk))
	goOn(n)
	goOn(other)
	wantState(t, "it goes on", n, other)
	if len(n.Entries()) != 5 || stateOf(n.Applied()) != "[4 2 4]" {
		t.Error("nothing went on:", n.Entries(), n.Applied())
	}
	wantLasting(t, "it went on", c, 1, n, d)
	if err := n.Compact(); err != api.OK {
		t.Fatal("Compact:", err)
	}
	if l := records(t, d, c.Segment); len(l) != 10+4+5 {
		t.Error(len(l), "records of 10 events, 3 votes, a promise and 5 entries")
	}
	flush(t, n)
	d.Crash(nil)
	wantState(t, "behind a crash", start(t, c, 1, d, 0), n)
}

// A snapshot takes the stead of records: room becomes free.
func TestCompactFreesRoom(t *testing.T) {
	c := config(3)
	c.Segment = 100
	d := newDisk(t, c.Disk)
	n := start(t, c, 1, d, 0)
	for i := range 300 {
		n.On(inBallot(api.MsgPrepare, 0, 1, ballot(i+1, 0), 0))
	}
	flush(t, n)
	if len(d.Files()) < 60 {
		t.Fatal(len(d.Files()), "files")
	}
	left := d.Left()
	if err := n.Compact(); err != api.OK || d.Left() < left+5000 || len(d.Files()) > 4 {
		t.Error(err, d.Left(), left, len(d.Files()))
	}
	wantLasting(t, "compact", c, 1, n, d)
	if l := records(t, d, 100); len(l) != 1 {
		t.Error(len(l), "records")
	}
}

func TestCompactOfNothing(t *testing.T) {
	n, d := fresh(t, 3, 1)
	if err := n.Compact(); err != api.OK {
		t.Error("Compact:", err)
	}
	wantLasting(t, "nothing", config(3), 1, n, d)
	if l := records(t, d, 1<<12); len(l) != 0 {
		t.Error("records", l)
	}
	m := start(t, config(3), 1, d, 0) // and its hold is not held
	m.On(inBallot(api.MsgPrepare, 0, 1, ballot(1, 0), 0))
	wantMessages(t, "a promise", m, inBallot(api.MsgPromise, 1, 0, ballot(1, 0), 0))
}

// What the store refuses is told, and nothing changes: too much for a snapshot, no room, no power.
func TestCompactRefused(t *testing.T) {
	c := config(3)
	n, d := fresh(t, 3, 1)
	for i := range 900 {
		call(t, n, api.Call{Id: i, Kind: api.CallUpdate, Cart: strings.Repeat("c", 32), Sku: strings.Repeat("s", 32), Qty: 1})
	}
	flush(t, n)
	if err := n.Compact(); err != api.ErrFrame {
		t.Error("too much:", err)
	}
	wantLasting(t, "too much", c, 1, n, d)

	d = newDisk(t, 1500)
	n = full(t, c, d)
	fill(t, d)
	before := state(n)
	if err := n.Compact(); err != api.ErrFull || state(n) != before {
		t.Error("full:", err)
	}
	wantLasting(t, "full", c, 1, n, d)
	d.Stop(0)
	if err := n.Compact(); err != api.ErrOff || state(n) != before {
		t.Error("off:", err)
	}
}

// The power may go anywhere within a Compact.
func TestCompactAndPower(t *testing.T) {
	c := config(3)
	c.Segment = 60
	for power := range 60 {
		d := newDisk(t, c.Disk)
		n := full(t, c, d)
		n.Compact()
		goOn(n)
		flush(t, n)
		wanted := state(n)
		d.Stop(power)
		err := n.Compact()
		off := d.Off()
		if err != api.OK && err != api.ErrOff {
			t.Error("power for", power, err)
		}
		d.Crash(nil)
		if m := start(t, c, 1, d, 0); state(m) != wanted {
			t.Errorf("power for %d: %d:\n%s\nnot\n%s", power, err, state(m), wanted)
		}
		if !off {
			return
		}
	}
	t.Error("a Compact has no end")
}

// Events come again in an order in which each finds all that it had seen: by their dots more would wait for the
// one of the last origin than may.
func TestCompactOfManyThatDepend(t *testing.T) {
	c := config(3)
	d := newDisk(t, c.Disk)
	n := start(t, c, 1, d, 0)
	small := func(origin, seq int, deps ...int) api.Event {
		return api.Event{Dot: api.Dot{Origin: origin, Seq: seq}, Deps: deps, Cart: "c", Sku: "s"}
	}
	n.On(delta(0, 1, small(2, 1), small(0, 1, 0, 0, 1)))
	const many = api.MaxWaits + 100
	for seq := 2; seq <= many; seq++ {
		n.On(delta(0, 1, small(0, seq, seq-1)))
	}
	n.On(delta(0, 1, small(2, 2, 0, 0, 1), small(2, 3, many, 0, 2), small(0, many+1, many, 0, 3)))
	if err := n.Compact(); err != api.OK {
		t.Fatal("Compact:", err)
	}
	wantSame(t, "applied", n.Applied(), []int{many + 1, 0, 3})
	wantLasting(t, "many", c, 1, n, d)
}

// As many votes as there may be are in a snapshot, and none of them is refused when it is read.
func TestCompactOfAllVotes(t *testing.T) {
	c := config(3)
	d := newDisk(t, c.Disk)
	n := start(t, c, 1, d, 0)
	for i := range api.MaxList {
		n.On(accept(0, 1, ballot(1+i/1000, 0), (i*7)%api.MaxList, noop()))
	}
	n.On(accept(0, 1, ballot(5, 0), api.MaxList, noop())) // it is refused
	n.On(accept(0, 1, ballot(5, 0), 17, noop()))
	flush(t, n)
	if len(n.Votes()) != api.MaxList {
		t.Fatal(len(n.Votes()), "votes")
	}
	if err := n.Compact(); err != api.OK {
		t.Fatal("Compact:", err)
	}
	wantLasting(t, "votes", c, 1, n, d)
}
