package node_test

import (
	"fmt"
	"math"
	"slices"
	"strings"
	"testing"

	"pannier/api"
	"pannier/codec"
	"pannier/disk"
	"pannier/frame"
	"pannier/node"
	"pannier/store"
)

func TestCheck(t *testing.T) {
	right := config(3)
	for _, k := range []struct {
		field     func(c *api.Config) *int
		low, high int
	}{
		{func(c *api.Config) *int { return &c.Nodes }, 1, 7},
		{func(c *api.Config) *int { return &c.Lease }, 1, 1 << 20},
		{func(c *api.Config) *int { return &c.Drift }, 0, 999},
		{func(c *api.Config) *int { return &c.Segment }, 1, 1 << 20},
		{func(c *api.Config) *int { return &c.Disk }, 0, 1 << 28},
	} {
		for _, x := range []int{k.low, k.low + 1, k.high - 1, k.high} {
			c := right
			*k.field(&c) = x
			if err := node.Check(c); err != api.OK {
				t.Errorf("Check(%+v): %d", c, err)
			}
			if n, err := node.New(c, 0, newDisk(t, 1000), 0); n == nil || err != api.OK {
				t.Errorf("New(%+v): %v, %d", c, n, err)
			}
		}
		for _, x := range []int{k.low - 1, k.high + 1, math.MinInt, math.MaxInt} {
			c := right
			*k.field(&c) = x
			if err := node.Check(c); err != api.ErrArg {
				t.Errorf("Check(%+v): %d", c, err)
			}
			if n, err := node.New(c, 0, newDisk(t, 1000), 0); n != nil || err != api.ErrArg {
				t.Errorf("New(%+v): %v, %d", c, n, err)
			}
		}
	}
	if err := node.Check(api.Config{}); err != api.ErrArg {
		t.Error("Check of an empty config:", err)
	}
}

// wantNone looks whether New refuses, and changes nothing.
func wantNone(t *testing.T, what string, c api.Config, id int, d *disk.Disk, now int, wanted api.Errno) {
	t.Helper()
	before := d.Files()
	if n, err := node.New(c, id, d, now); n != nil || err != wanted {
		t.Errorf("%s: New(%+v, %d, %d): %v, %d, not %d", what, c, id, now, n, err, wanted)
	}
	if !slices.Equal(d.Files(), before) {
		t.Errorf("%s: files %q, not %q", what, fmt.Sprint(d.Files()), fmt.Sprint(before))
	}
}

func TestNewArguments(t *testing.T) {
	d := newDisk(t, 1000)
	put(t, d, "n-man", "no manifest") // what is there does not matter yet
	for _, id := range []int{-1, 3, 7, math.MinInt, math.MaxInt} {
		wantNone(t, "id", config(3), id, d, 0, api.ErrArg)
	}
	for _, now := range []int{-1, api.MaxClock + 1, math.MinInt, math.MaxInt} {
		wantNone(t, "now", config(3), 0, d, now, api.ErrArg)
	}
	wantNone(t, "disk", config(3), 0, nil, 0, api.ErrArg)
	for nodes := 1; nodes <= api.MaxNodes; nodes++ {
		for id := range nodes {
			start(t, config(nodes), id, newDisk(t, 1000), 0)
			start(t, config(nodes), id, newDisk(t, 0), api.MaxClock)
		}
	}
}

// put puts a file on the disk, its first bytes sure.
func put(t *testing.T, d *disk.Disk, name, sure string, unsure ...string) {
	t.Helper()
	if d.Append(name, []byte(sure)) != api.OK || d.Sync(name) != api.OK || d.Append(name, []byte(strings.Join(unsure, ""))) != api.OK {
		t.Fatal("no room for", name)
	}
}

func frames(payloads ...string) string {
	var b []byte
	for _, p := range payloads {
		b, _ = frame.Put(b, p)
	}
	return string(b)
}

// What the store refuses is told.
func TestNewOnWrongDisks(t *testing.T) {
	d := newDisk(t, 1000)
	put(t, d, "n-man", "no manifest")
	wantNone(t, "manifest", config(3), 0, d, 0, api.ErrStore)
	d = newDisk(t, 1000)
	put(t, d, "n-log-1", frames("\x00", "a")+"x")
	put(t, d, "n-log-2", frames("\x01", "b"))
	wantNone(t, "log", config(3), 0, d, 0, api.ErrWal)
	d = newDisk(t, 1000)
	put(t, d, "n-log-1", frames("\x00", "a"))
	d.Stop(0)
	wantNone(t, "power", config(3), 0, d, 0, api.ErrOff)
	wantNone(t, "no disk's", config(3), 0, new(disk.Disk), 0, api.ErrClosed)
}

// snapshot is a disk with that snapshot, and those records behind it, the last one torn.
func snapshot(t *testing.T, snap string, recs ...string) *disk.Disk {
	t.Helper()
	d := newDisk(t, 1<<20)
	s, _, _, err := store.Open(d, "n", 1<<12)
	if err != api.OK || s.Install(snap) != api.OK {
		t.Fatal("Install", err)
	}
	for _, rec := range recs {
		s.Append(rec)
	}
	s.Sync()
	d.Append("n-log-1", []byte("torn"))
	return d
}

func list(texts ...string) string {
	return string(codec.List(nil, texts, codec.Text))
}

func eventRecord(e api.Event) string {
	b, err := codec.Event(e)
	if err != api.OK {
		panic(err)
	}
	return "E" + string(b)
}

func messageRecord(letter string, m api.Msg) string {
	b, err := codec.Msg(m)
	if err != api.OK {
		panic(err)
	}
	return letter + string(b)
}

func TestNewOnSnapshots(t *testing.T) {
	for _, snap := range []string{"", "\x01", "\x02\x01a", "\x01\x02a", "\x00\x00", list("a", "b") + "c", "\x80\x00", "\x81\x00\x01a", "\xff\xff\xff\xff\xff\xff\xff\xff\xff\x01", "\x01\x81\x00a", "text"} {
		d := snapshot(t, snap, eventRecord(adds(0, 1, 1)))
		wantNone(t, fmt.Sprintf("%q", snap), config(3), 0, d, 0, api.ErrStore)
	}
	for _, snap := range []string{list(), list(""), list("", "x", "E"), list("E", "M", "C", "F", "\x00", "\xff")} {
		d := snapshot(t, snap, eventRecord(adds(0, 1, 1)))
		n := start(t, config(3), 0, d, 0)
		wantSame(t, "events", n.Events(), []api.Event{adds(0, 1, 1)})
	}
	// The snapshot comes ahead of the records.
	n := start(t, config(3), 0, snapshot(t, list(eventRecord(adds(1, 1, 1)), eventRecord(adds(0, 1, 2, 0, 1)), eventRecord(adds(1, 2, 4, 0, 1))), eventRecord(adds(0, 1, 9)), eventRecord(adds(0, 2, 8, 1, 2))), 0)
	wantSame(t, "applied", n.Applied(), []int{2, 2})
	wantSame(t, "the cart", n.Read("c"), tea(15))
}

// written is a disk with those records, all sure.
func written(t *testing.T, recs ...string) *disk.Disk {
	t.Helper()
	d := newDisk(t, 1<<20)
	s, _, _, err := store.Open(d, "n", 1<<12)
	if err != api.OK {
		t.Fatal(err)
	}
	for _, rec := range recs {
		if _, err := s.Append(rec); err != api.OK {
			t.Fatal(err)
		}
	}
	s.Sync()
	return d
}

// Events come to the log, own ones too; those that are refused, or say nothing, are passed over.
func TestRecordsOfEvents(t *testing.T) {
	own, other := adds(1, 1, 1), adds(0, 1, 2)
	early, late := adds(0, 3, 8, 2), adds(0, 2, 4, 1, 1)
	clash := adds(1, 1, 5)
	n := start(t, config(3), 1, written(t,
		"", "E", "x", "e", eventRecord(own)[1:],
		eventRecord(own), eventRecord(clash), eventRecord(adds(2, 1, 64))+"\x00", eventRecord(early), eventRecord(other)[:5],
		eventRecord(adds(2, 1, 7, 0, 0, 1)), // it has seen itself
		eventRecord(other), eventRecord(late), eventRecord(adds(2, 2, 16, 0, 0, 1)),
	), 0)
	wantSame(t, "events", n.Events(), []api.Event{other, late, early, own})
	wantSame(t, "applied", n.Applied(), []int{3, 1})
	wantSame(t, "the cart", n.Read("c"), tea(15))
	// What waits is applied when the other one comes.
	n.On(delta(2, 1, adds(2, 1, 32)))
	wantSame(t, "applied", n.Applied(), []int{3, 1, 2})
	wantSame(t, "the cart", n.Read("c"), tea(63))
}

// Messages come to the acceptor, chosen entries to the learner; then the machine carries out the prefix.
func TestRecordsOfMessages(t *testing.T) {
	chosenBy := func(slot int, e api.Entry) string { return messageRecord("C", chosen(1, 1, slot, e)) }
	odd := chosen(1, 1, 5, noop())
	odd.Time = 1
	n := start(t, config(3), 1, written(t,
		messageRecord("M", inBallot(api.MsgPrepare, 0, 1, ballot(2, 0), 0)),
		messageRecord("M", accept(0, 1, ballot(1, 2), 0, sealed("a", "c", 0))),     // below what is promised
		messageRecord("M", accept(0, 2, ballot(9, 2), 0, sealed("a", "c", 0))),     // another node's
		messageRecord("M", inBallot(api.MsgPromise, 0, 1, ballot(9, 2), 0)),        // none of an acceptor's
		messageRecord("C", accept(0, 1, ballot(9, 2), 0, sealed("a", "c", 0))),     // nothing was chosen by it
		messageRecord("M", accept(0, 1, ballot(2, 0), 3, sealed("b", "c", 0)))+" ", // no message
		messageRecord("M", accept(0, 1, ballot(2, 0), 1, sealed("t", "c", 0, 1))),
		messageRecord("M", accept(0, 1, ballot(3, 0), 0, noop())),
		chosenBy(1, sealed("t", "c", 0, 1)),
		chosenBy(1, noop()), // another entry stands there
		chosenBy(4, sealed("v", "d", 0)),
		messageRecord("C", chosen(0, 1, 5, noop())), messageRecord("C", chosen(1, 0, 5, noop())), messageRecord("C", odd),
		eventRecord(adds(0, 1, 1)), eventRecord(adds(0, 2, 2, 1)),
		chosenBy(0, noop()), "C", "Cx", "M", "Mx",
		chosenBy(2, sealed("u", "c", 0, 1)), // stale
	), 0)
	wantSame(t, "promised", n.Promised(), ballot(3, 0))
	wantSame(t, "votes", n.Votes(), []api.Voted{{Slot: 0, Ballot: ballot(3, 0), Entry: noop()}, {Slot: 1, Ballot: ballot(2, 0), Entry: sealed("t", "c", 0, 1)}})
	wantSame(t, "entries", n.Entries(), []api.Entry{noop(), sealed("t", "c", 0, 1), sealed("u", "c", 0, 1)})
	wantSame(t, "the cart", n.Read("c"), tea(2))
	call(t, n, checkout(7, "d", "t"))
	wantAnswers(t, "an order", n, api.Answer{Id: 7, Order: order(1, "t", "c", 0, 1), Lines: tea(1), Known: true, Applied: []int{2}, Learned: 3})
	// What lay beyond the gap is carried out when that is filled.
	n.On(chosen(0, 1, 3, noop()))
	if l := len(n.Entries()); l != 5 {
		t.Error(l, "entries")
	}
}

// Where there were records the hold keeps all ballots away for a lease; else nobody was granted anything.
func TestNewHold(t *testing.T) {
	prepare := inBallot(api.MsgPrepare, 0, 1, ballot(5, 0), 0)
	for _, k := range []struct {
		what string
		d    *disk.Disk
		held bool
	}{
		{"no records", newDisk(t, 1000), false},
		{"an empty snapshot", snapshot(t, list()), false},
		{"a record", written(t, eventRecord(adds(0, 1, 1))), true},
		{"a snapshot", snapshot(t, list(eventRecord(adds(0, 1, 1)))), true},
	} {
		n := start(t, config(3), 1, k.d, 1000)
		for _, now := range []int{1000, 1099} {
			n.Tick(now)
			n.On(prepare)
			if got := len(flush(t, n)) == 0; got != k.held {
				t.Errorf("%s: at %d it is held: %v", k.what, now, got)
			}
		}
		n.Tick(1100)
		n.On(prepare)
		wantMessages(t, k.what, n, inBallot(api.MsgPromise, 1, 0, ballot(5, 0), 0))
	}
}

func TestClosed(t *testing.T) {
	for _, n := range []*node.Node{nil, {}} {
		if err := n.Call(update(1, "c", "tea", 1)); err != api.ErrClosed {
			t.Error("Call:", err)
		}
		if err := n.Call(api.Call{}); err != api.ErrClosed {
			t.Error("Call:", err)
		}
		if err := n.Compact(); err != api.ErrClosed {
			t.Error("Compact:", err)
		}
		if out, err := n.Flush(); out != nil || err != api.ErrClosed {
			t.Error("Flush:", out, err)
		}
		n.On(digest(1, 0, 0))
		n.Tick(5)
		n.Elect()
		n.Renew()
		n.Gossip(1)
		n.Again()
		if n.Held() != 0 || n.Waits() != 0 || n.Applied() != nil || n.Events() != nil || n.Entries() != nil || n.Promised() != (api.Ballot{}) || n.Votes() != nil || n.Phase() != 0 || n.Read("c") != nil {
			t.Error("a closed node has something")
		}
	}
}
