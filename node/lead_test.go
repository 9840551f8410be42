package node_test

import (
	"math"
	"testing"

	"pannier/api"
	"pannier/disk"
)

// fill takes all room of a disk, but a byte.
func fill(t *testing.T, d *disk.Disk) {
	t.Helper()
	put(t, d, "fill", string(make([]byte, d.Left()-1)))
}

func TestTick(t *testing.T) {
	m, _ := fresh(t, 3, 1)
	b := leads(t, m, 3, 1)
	flush(t, m)
	for _, k := range []struct{ tick, now int }{{5, 5}, {4, 5}, {-1, 5}, {math.MinInt, 5}, {5, 5}, {api.MaxClock + 1, 5}, {math.MaxInt, 5}, {7, 7}, {api.MaxClock, api.MaxClock}, {8, api.MaxClock}} {
		m.Tick(k.tick)
		m.Renew()
		wantMessages(t, "MsgLease", m, leaseOf(api.MsgLease, 1, 0, b, k.now), leaseOf(api.MsgLease, 1, 2, b, k.now))
	}
	m = start(t, config(3), 1, newDisk(t, 1000), 300)
	b = leads(t, m, 3, 1)
	m.Renew()
	wantMessages(t, "its first clock", m, leaseOf(api.MsgLease, 1, 0, b, 300), leaseOf(api.MsgLease, 1, 2, b, 300))
}

// The node itself promises at once; its answer is held back like all others.
func TestElect(t *testing.T) {
	n, d := fresh(t, 3, 1)
	n.On(chosen(0, 1, 0, noop()))
	n.On(inBallot(api.MsgPrepare, 0, 1, ballot(4, 2), 0))
	flush(t, n)
	n.Elect()
	b := ballot(5, 1)
	wantSame(t, "promised", n.Promised(), b)
	if n.Phase() != api.PhasePreparing || n.Held() != 3 {
		t.Error("phase", n.Phase(), "held", n.Held())
	}
	l := records(t, d, 1<<12)
	wantSame(t, "its record", l[len(l)-1], messageRecord("M", inBallot(api.MsgPrepare, 1, 1, b, 1)))
	wantMessages(t, "to the others", n, inBallot(api.MsgPrepare, 1, 0, b, 1), inBallot(api.MsgPrepare, 1, 2, b, 1))
	if n.Phase() != api.PhasePreparing {
		t.Error("led by one")
	}
	n.On(inBallot(api.MsgPromise, 2, 1, b, 0)) // of another slot
	n.On(inBallot(api.MsgPromise, 2, 1, ballot(4, 1), 1))
	if n.Phase() != api.PhasePreparing {
		t.Error("led by others' promises")
	}
	n.On(inBallot(api.MsgPromise, 2, 1, b, 1))
	if n.Phase() != api.PhaseLeading {
		t.Error("phase", n.Phase())
	}
	n.Elect() // anew, whatever it was
	if n.Phase() != api.PhasePreparing || n.Promised() != ballot(6, 1) {
		t.Error("phase", n.Phase(), n.Promised())
	}
}

// A new ballot begins without a lease, also if that of the one ahead counted.
func TestElectClearsTheLease(t *testing.T) {
	n, _ := fresh(t, 3, 1)
	b := leads(t, n, 3, 1)
	n.On(leaseOf(api.MsgLeased, 0, 1, b, 0))
	n.On(leaseOf(api.MsgLeased, 2, 1, b, 0))
	call(t, n, status(1, "t"))
	wantAnswers(t, "by the lease", n, api.Answer{Id: 1})
	next := leads(t, n, 3, 1)
	call(t, n, status(2, "t"))
	if n.Waits() != 1 || next == b {
		t.Error("by the lease of the ballot ahead", next)
	}
}

// Behind the last ballot there is none: nothing changes, also its lease counts as it did.
func TestElectBehindTheLastBallot(t *testing.T) {
	n, _ := fresh(t, 3, 1)
	b := leads(t, n, 3, 1)
	n.On(inBallot(api.MsgPrepare, 0, 1, ballot(api.MaxSeq, 0), 0))
	n.On(leaseOf(api.MsgLeased, 0, 1, b, 0))
	n.On(leaseOf(api.MsgLeased, 2, 1, b, 0))
	flush(t, n)
	n.Elect()
	if n.Phase() != api.PhaseLeading {
		t.Error("phase", n.Phase())
	}
	call(t, n, status(1, "t"))
	out := flush(t, n)
	wantSame(t, "by the lease", answers(out), []api.Answer{{Id: 1}})
	wantSame(t, "messages", messages(out), []api.Msg{})
}

// If its own promise cannot be recorded, nobody else is asked, and it is idle.
func TestElectOnAFullDisk(t *testing.T) {
	for _, off := range []bool{false, true} {
		d := newDisk(t, 1000)
		n := start(t, config(3), 1, d, 0)
		b := leads(t, n, 3, 1)
		call(t, n, status(1, "t"))
		flush(t, n)
		if off {
			d.Stop(0)
		} else {
			fill(t, d)
		}
		n.Elect()
		if n.Phase() != api.PhaseIdle || n.Promised() != b || n.Waits() != 0 || n.Held() != 1 {
			t.Error("phase", n.Phase(), "promised", n.Promised(), "waits", n.Waits(), "held", n.Held())
		}
		if off {
			continue
		}
		wantAnswers(t, "leads no more", n, api.Answer{Id: 1, Err: api.ErrNone})
		d.Remove("fill")
		n.Elect()
		flush(t, n)
		promise(n, 3, 1, 0, ballot(b.Round+2, 1)) // that ballot it did not use again
		if n.Phase() != api.PhaseLeading {
			t.Error("phase", n.Phase())
		}
	}
}

// While its own hold keeps its ballot away, it asks the others alone; and may lead by them.
func TestElectWhileItIsHeld(t *testing.T) {
	d := written(t, eventRecord(adds(1, 1, 1)))
	n := start(t, config(3), 1, d, 50)
	n.Elect()
	b := ballot(1, 1)
	wantSame(t, "promised", n.Promised(), api.Ballot{})
	wantMessages(t, "the others", n, inBallot(api.MsgPrepare, 1, 0, b, 0), inBallot(api.MsgPrepare, 1, 2, b, 0))
	n.Tick(149)
	n.Again()
	wantMessages(t, "again", n, inBallot(api.MsgPrepare, 1, 0, b, 0), inBallot(api.MsgPrepare, 1, 2, b, 0))
	n.On(inBallot(api.MsgPromise, 0, 1, b, 0))
	n.On(inBallot(api.MsgPromise, 2, 1, b, 0))
	if n.Phase() != api.PhaseLeading {
		t.Fatal("phase", n.Phase())
	}
	n.Renew() // it did not promise that ballot, so it grants nothing
	wantMessages(t, "leases", n, leaseOf(api.MsgLease, 1, 0, b, 149), leaseOf(api.MsgLease, 1, 2, b, 149))
	call(t, n, checkout(1, "c", "t"))
	wantSame(t, "promised by its vote", n.Promised(), b)
	wantMessages(t, "votes", n, acceptToAll(1, b, 0, sealed("t", "c", 0, 0, 1))...)
	// One node that is held does not lead, till it is over.
	one := start(t, config(1), 0, written(t, eventRecord(adds(0, 1, 1))), 50)
	one.Elect()
	flush(t, one)
	one.Tick(149)
	one.Again()
	flush(t, one)
	if one.Phase() != api.PhasePreparing {
		t.Error("phase", one.Phase())
	}
	one.Tick(150)
	one.Again()
	flush(t, one)
	if one.Phase() != api.PhaseLeading {
		t.Error("phase", one.Phase())
	}
}

// A ballot that it leads in without having promised it, it does not use for others' votes, if it cannot
// remember it: behind a crash it might use it again.
func TestBallotThatIsNotRemembered(t *testing.T) {
	d := written(t, eventRecord(adds(1, 1, 1)))
	n := start(t, config(3), 1, d, 0)
	n.Elect()
	flush(t, n)
	b := ballot(1, 1)
	n.On(inBallot(api.MsgPromise, 0, 1, b, 0))
	n.On(inBallot(api.MsgPromise, 2, 1, b, 0))
	if n.Phase() != api.PhaseLeading {
		t.Fatal("phase", n.Phase())
	}
	fill(t, d)
	call(t, n, status(1, "t"))
	wantAnswers(t, "it leads no more", n, api.Answer{Id: 1, Err: api.ErrNone, Applied: []int{0, 1}})
	if n.Phase() != api.PhaseIdle {
		t.Error("phase", n.Phase())
	}
	wantMessages(t, "nobody is asked", n)
	// One that promised its ballot asks the others, whether it can vote itself or not.
	d = newDisk(t, 1000)
	n = start(t, config(3), 1, d, 0)
	b = leads(t, n, 3, 1)
	fill(t, d)
	call(t, n, status(1, "t"))
	wantMessages(t, "the others", n, acceptToAll(1, b, 0, noop())...)
}

// The same where it begins to lead with votes of others, and where a checkout waits.
func TestBallotThatIsNotRememberedAtOnce(t *testing.T) {
	d := written(t, eventRecord(adds(1, 1, 1)))
	n := start(t, config(3), 1, d, 0)
	n.Elect()
	flush(t, n)
	b := ballot(1, 1)
	fill(t, d)
	promise := inBallot(api.MsgPromise, 0, 1, b, 0)
	promise.Voted = []api.Voted{{Slot: 1, Ballot: ballot(0, 2), Entry: noop()}}
	n.On(promise)
	promise.From = 2
	n.On(promise)
	if n.Phase() != api.PhaseIdle {
		t.Error("phase", n.Phase())
	}
	wantMessages(t, "nobody is asked", n)
}

func TestRenew(t *testing.T) {
	n, d := fresh(t, 3, 1)
	n.Renew()
	n.Elect()
	flush(t, n)
	n.Renew()
	if n.Held() != 0 {
		t.Error("it does not lead")
	}
	promise(n, 3, 1, 0, ballot(1, 1))
	n.Tick(20)
	n.Renew()
	if n.Held() != 3 { // with its own grant
		t.Error(n.Held(), "held back")
	}
	wantMessages(t, "to the others", n, leaseOf(api.MsgLease, 1, 0, ballot(1, 1), 20), leaseOf(api.MsgLease, 1, 2, ballot(1, 1), 20))
	// Its own grant came with the Flush: one more is a majority; and its own hold was given.
	n.On(leaseOf(api.MsgLeased, 0, 1, ballot(1, 1), 20))
	call(t, n, status(1, "t"))
	wantAnswers(t, "by the lease", n, api.Answer{Id: 1})
	n.On(inBallot(api.MsgPrepare, 0, 1, ballot(5, 0), 0))
	wantMessages(t, "held", n)
	if l := records(t, d, 1<<12); len(l) != 1 {
		t.Error(len(l), "records")
	}
	// Of one node its own is enough.
	one, _ := fresh(t, 1, 0)
	one.Elect()
	flush(t, one)
	one.Renew()
	call(t, one, status(1, "t"))
	if one.Waits() != 1 {
		t.Error("a status ahead of the grant")
	}
	flush(t, one)
	call(t, one, status(2, "t"))
	if one.Waits() != 0 {
		t.Error(one.Waits(), "wait")
	}
}

func TestGossip(t *testing.T) {
	n, _ := fresh(t, 3, 1)
	call(t, n, update(1, "c", "tea", 1))
	n.On(chosen(0, 1, 0, noop()))
	flush(t, n)
	for _, to := range []int{-1, 1, 3, 6, 7, math.MinInt, math.MaxInt} {
		n.Gossip(to)
	}
	if n.Held() != 0 {
		t.Error(n.Held(), "held back")
	}
	n.Gossip(2)
	n.Gossip(0)
	wantMessages(t, "digests", n, digest(1, 2, 1, 0, 1), digest(1, 0, 1, 0, 1))
}

func TestAgain(t *testing.T) {
	n, _ := fresh(t, 5, 1)
	n.Again()
	if n.Held() != 0 {
		t.Error("idle")
	}
	n.Elect()
	flush(t, n)
	b := ballot(1, 1)
	n.On(inBallot(api.MsgPromise, 3, 1, b, 0))
	n.Again()
	wantMessages(t, "preparing", n, inBallot(api.MsgPrepare, 1, 0, b, 0), inBallot(api.MsgPrepare, 1, 2, b, 0), inBallot(api.MsgPrepare, 1, 4, b, 0))
	n.On(inBallot(api.MsgPromise, 4, 1, b, 0))
	call(t, n, checkout(1, "c", "t"))
	call(t, n, status(2, "t"))
	flush(t, n)
	n.On(inBallot(api.MsgAccepted, 2, 1, b, 0))
	n.Again()
	e := sealed("t", "c", 0)
	wantMessages(t, "leading", n, accept(1, 0, b, 0, e), accept(1, 3, b, 0, e), accept(1, 4, b, 0, e), accept(1, 0, b, 1, noop()), accept(1, 2, b, 1, noop()), accept(1, 3, b, 1, noop()), accept(1, 4, b, 1, noop()))
}

// A vote that the node could not give itself it gives when it is asked again, at once.
func TestAgainToItself(t *testing.T) {
	d := newDisk(t, 1000)
	n := start(t, config(1), 0, d, 0)
	n.Elect()
	flush(t, n)
	fill(t, d)
	call(t, n, checkout(1, "c", "t"))
	flush(t, n)
	flush(t, n)
	if n.Waits() != 1 || len(n.Votes()) != 0 {
		t.Error("a full disk", n.Waits(), n.Votes())
	}
	d.Remove("fill")
	n.Again()
	wantSame(t, "votes", n.Votes(), []api.Voted{{Ballot: ballot(1, 0), Entry: sealed("t", "c", 0)}})
	flush(t, n)
	wantAnswers(t, "an order", n, api.Answer{Id: 1, Order: order(1, "t", "c", 0), Known: true, Learned: 1})
}
