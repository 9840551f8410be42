package node_test

import (
	"fmt"
	"math"
	"slices"
	"strings"
	"testing"

	"pannier/api"
	"pannier/node"
)

// oneOfEach are messages for the node 1, of each kind, that would all do something at busy's node.
func oneOfEach(b api.Ballot) map[string]api.Msg {
	return map[string]api.Msg{
		"prepare":  inBallot(api.MsgPrepare, 0, 1, ballot(9, 0), 0),
		"accept":   accept(0, 1, ballot(9, 0), 5, noop()),
		"accepted": inBallot(api.MsgAccepted, 2, 1, b, 0),
		"nack":     inBallot(api.MsgNack, 2, 1, ballot(9, 0), 0),
		"chosen":   chosen(0, 1, 0, sealed("t", "c", 0)),
		"digest":   digest(0, 1, 3, 1),
		"delta":    delta(0, 1, adds(0, 1, 1)),
		"lease":    leaseOf(api.MsgLease, 0, 1, b, 3),
		"leased":   leaseOf(api.MsgLeased, 2, 1, b, 3),
	}
}

// busy is a node 1 of three that leads, and waits for a vote, and for one more node to grant its lease.
func busy(t *testing.T) (*node.Node, api.Ballot) {
	t.Helper()
	n, _ := fresh(t, 3, 1)
	b := leads(t, n, 3, 1)
	call(t, n, checkout(1, "c", "t"))
	n.Tick(3)
	n.On(leaseOf(api.MsgLeased, 0, 1, b, 3))
	flush(t, n)
	flush(t, n)
	return n, b
}

// whole is all that can be told of a node.
func whole(t *testing.T, n *node.Node) string {
	t.Helper()
	// A status says whether the lease counts: it is told at once, or waits.
	call(t, n, status(99, "t"))
	return fmt.Sprintln(state(n), n.Held(), n.Waits(), n.Phase(), n.Promised())
}

// Messages for others, or that may not be, do nothing.
func TestWrongMessages(t *testing.T) {
	calm, b := busy(t)
	wanted := whole(t, calm)
	wrong := map[string]func(m *api.Msg){
		"for another":    func(m *api.Msg) { m.To = 0 },
		"for the last":   func(m *api.Msg) { m.To = 2 },
		"for none":       func(m *api.Msg) { m.To = 7 },
		"for -1":         func(m *api.Msg) { m.To = -1 },
		"from none":      func(m *api.Msg) { m.From = 7 },
		"from -1":        func(m *api.Msg) { m.From = -1 },
		"round":          func(m *api.Msg) { m.Ballot.Round = -1 },
		"round, great":   func(m *api.Msg) { m.Ballot.Round = math.MaxInt },
		"ballot's node":  func(m *api.Msg) { m.Ballot.Node = 7 },
		"slot":           func(m *api.Msg) { m.Slot = -1 },
		"slot, great":    func(m *api.Msg) { m.Slot = 1 << 31 },
		"time":           func(m *api.Msg) { m.Time = -1 },
		"time, great":    func(m *api.Msg) { m.Time = math.MaxInt },
		"seen":           func(m *api.Msg) { m.Seen = []int{1, 0} },
		"events":         func(m *api.Msg) { m.Events = append(m.Events, api.Event{}) },
		"a noop's token": func(m *api.Msg) { m.Entry = api.Entry{Noop: true, Seal: api.Seal{Token: "t"}} },
		"an empty entry": func(m *api.Msg) { m.Entry = api.Entry{} },
		"kind":           func(m *api.Msg) { m.Kind = 11 },
		"kind 0":         func(m *api.Msg) { m.Kind = 0 },
		"kind, great":    func(m *api.Msg) { m.Kind = 300 },
		"too long":       func(m *api.Msg) { m.Events = make([]api.Event, api.MaxList+1) },
	}
	for name, m := range oneOfEach(b) {
		n, _ := busy(t)
		n.On(m)
		if whole(t, n) == wanted {
			t.Errorf("%s does nothing", name)
		}
		for what, change := range wrong {
			n, _ := busy(t)
			w := m
			change(&w)
			n.On(w)
			if got := whole(t, n); got != wanted {
				t.Errorf("%s, %s:\n%s\nnot\n%s", name, what, got, wanted)
			}
		}
	}
}

func TestPrepareAndAccept(t *testing.T) {
	n, d := fresh(t, 3, 1)
	recs := 0
	wantRecords := func(m ...api.Msg) {
		t.Helper()
		l := records(t, d, 1<<12)
		var wanted []string
		for _, m := range m {
			wanted = append(wanted, messageRecord("M", m))
		}
		wantSame(t, "records", l[recs:], wanted)
		recs = len(l)
	}
	prepare := inBallot(api.MsgPrepare, 0, 1, ballot(2, 0), 1)
	n.On(prepare)
	wantRecords(prepare)
	wantSame(t, "promised", n.Promised(), ballot(2, 0))
	wantMessages(t, "a promise", n, inBallot(api.MsgPromise, 1, 0, ballot(2, 0), 1))
	n.On(prepare)
	wantRecords()
	wantMessages(t, "the same promise", n, inBallot(api.MsgPromise, 1, 0, ballot(2, 0), 1))
	vote := accept(2, 1, ballot(3, 2), 4, sealed("t", "c", 0, 1))
	n.On(vote)
	n.On(vote)
	wantRecords(vote)
	wantMessages(t, "votes", n, inBallot(api.MsgAccepted, 1, 2, ballot(3, 2), 4), inBallot(api.MsgAccepted, 1, 2, ballot(3, 2), 4))
	voted := api.Voted{Slot: 4, Ballot: ballot(3, 2), Entry: sealed("t", "c", 0, 1)}
	wantSame(t, "votes", n.Votes(), []api.Voted{voted})
	n.On(prepare)
	n.On(accept(0, 1, ballot(3, 1), 4, noop()))
	wantRecords()
	wantMessages(t, "refused", n, inBallot(api.MsgNack, 1, 0, ballot(3, 2), 1), inBallot(api.MsgNack, 1, 0, ballot(3, 2), 4))
	prepare.Ballot = ballot(4, 0)
	n.On(prepare)
	wantRecords(prepare)
	told := inBallot(api.MsgPromise, 1, 0, ballot(4, 0), 1)
	told.Voted = []api.Voted{voted}
	wantMessages(t, "a promise with votes", n, told)
	if len(n.Entries()) != 0 {
		t.Error("a vote chose")
	}
	wantLasting(t, "votes", config(3), 1, n, d)
}

// What cannot be recorded is not done, and not answered.
func TestVotesOnAFullDisk(t *testing.T) {
	c := config(3)
	d := newDisk(t, 100)
	n := start(t, c, 1, d, 0)
	n.On(inBallot(api.MsgPrepare, 0, 1, ballot(2, 0), 0))
	flush(t, n)
	fill(t, d)
	before := state(n)
	vote := accept(0, 1, ballot(2, 0), 0, sealed(strings.Repeat("t", 32), "c", 0))
	n.On(vote)
	n.On(inBallot(api.MsgPrepare, 2, 1, ballot(3, 2), 0))
	n.On(chosen(0, 1, 0, noop()))
	n.On(delta(0, 1, adds(0, 1, 1)))
	if state(n) != before || n.Held() != 0 {
		t.Error("a full disk:", state(n), n.Held())
	}
	n.On(inBallot(api.MsgPrepare, 0, 1, ballot(2, 0), 0)) // it has nothing to record
	wantMessages(t, "the same promise", n, inBallot(api.MsgPromise, 1, 0, ballot(2, 0), 0))
	n.On(inBallot(api.MsgPrepare, 0, 1, ballot(1, 0), 0))
	wantMessages(t, "a refusal", n, inBallot(api.MsgNack, 1, 0, ballot(2, 0), 0))
	wantLasting(t, "a full disk", c, 1, n, d)
	d.Remove("fill")
	d.Stop(0)
	n.On(vote)
	n.On(inBallot(api.MsgPrepare, 2, 1, ballot(3, 2), 0))
	n.On(chosen(0, 1, 0, noop()))
	n.On(delta(0, 1, adds(0, 1, 1)))
	if state(n) != before || n.Held() != 0 {
		t.Error("a disk that is off:", state(n), n.Held())
	}
}

// A message that is as long as may be is longer with its letter than a record may be.
func TestVoteThatIsTooLong(t *testing.T) {
	n, _ := fresh(t, 3, 1)
	m := inBallot(api.MsgPrepare, 0, 1, ballot(2, 0), 0)
	e := api.Event{Cart: strings.Repeat("c", 32), Sku: "s"}
	for length(m) <= api.MaxRecord {
		m.Events = append(m.Events, e)
	}
	for m.Events = m.Events[1:]; length(m) < api.MaxRecord; {
		at := 0
		for len(m.Events[at].Sku) == 32 {
			at++
		}
		m.Events[at].Sku += "s"
	}
	n.On(m)
	if n.Promised() != (api.Ballot{}) || n.Held() != 0 {
		t.Error("promised", n.Promised())
	}
	m.Events[0].Cart = m.Events[0].Cart[1:]
	n.On(m)
	wantMessages(t, "one byte less", n, inBallot(api.MsgPromise, 1, 0, ballot(2, 0), 0))
}

func length(m api.Msg) int {
	size := 0
	for _, e := range m.Events {
		size += len(eventRecord(e)) - 1
	}
	if len(m.Events) > 127 {
		size++ // how many there are takes a byte more
	}
	m.Events = nil
	return size + len(messageRecord("", m))
}

// The hold keeps other ballots from being promised, not from being voted for.
func TestHoldBlocks(t *testing.T) {
	n, _ := fresh(t, 3, 1)
	n.On(inBallot(api.MsgPrepare, 0, 1, ballot(2, 0), 0))
	n.On(leaseOf(api.MsgLease, 0, 1, ballot(2, 0), 77))
	flush(t, n)
	n.Tick(99)
	n.On(inBallot(api.MsgPrepare, 2, 1, ballot(3, 2), 0))
	n.On(inBallot(api.MsgPrepare, 2, 1, ballot(1, 2), 0))
	wantMessages(t, "blocked", n)
	n.On(inBallot(api.MsgPrepare, 0, 1, ballot(2, 0), 3))
	wantMessages(t, "its own", n, inBallot(api.MsgPromise, 1, 0, ballot(2, 0), 3))
	n.On(accept(2, 1, ballot(3, 2), 0, noop()))
	wantMessages(t, "a vote", n, inBallot(api.MsgAccepted, 1, 2, ballot(3, 2), 0))
	n.Tick(100)
	n.On(inBallot(api.MsgPrepare, 2, 1, ballot(4, 2), 9))
	wantMessages(t, "over", n, inBallot(api.MsgPromise, 1, 2, ballot(4, 2), 9))
}

func TestLeaseAndLeased(t *testing.T) {
	n, d := fresh(t, 3, 1)
	n.On(inBallot(api.MsgPrepare, 0, 1, ballot(2, 0), 0))
	flush(t, n)
	n.Tick(10)
	n.On(leaseOf(api.MsgLease, 0, 1, ballot(1, 0), 5))
	n.On(leaseOf(api.MsgLease, 0, 1, ballot(3, 0), 5))
	n.On(leaseOf(api.MsgLease, 0, 1, ballot(2, 2), 5))
	wantMessages(t, "others than it promised", n)
	n.On(leaseOf(api.MsgLease, 0, 1, ballot(2, 0), 5))
	n.On(leaseOf(api.MsgLease, 2, 1, ballot(2, 0), api.MaxTime)) // whoever asks, and whenever
	wantMessages(t, "what it promised", n, leaseOf(api.MsgLeased, 1, 0, ballot(2, 0), 5), leaseOf(api.MsgLeased, 1, 2, ballot(2, 0), api.MaxTime))
	// Another ballot gets a lease when it is promised, and the hold is over.
	n.On(accept(2, 1, ballot(3, 2), 0, noop()))
	flush(t, n)
	n.Tick(109)
	n.On(leaseOf(api.MsgLease, 2, 1, ballot(3, 2), 6))
	n.On(leaseOf(api.MsgLease, 0, 1, ballot(2, 0), 6))
	wantMessages(t, "held", n)
	n.Tick(110)
	n.On(leaseOf(api.MsgLease, 2, 1, ballot(3, 2), 7))
	wantMessages(t, "over", n, leaseOf(api.MsgLeased, 1, 2, ballot(3, 2), 7))
	if l := records(t, d, 1<<12); len(l) != 2 {
		t.Error("leases are recorded:", l)
	}
}

// A lease is granted by those of whom MsgLeased comes, while the node leads with that ballot.
func TestGrants(t *testing.T) {
	ask := func(n *node.Node) bool {
		waits := n.Waits()
		call(t, n, status(1, "t"))
		return n.Waits() == waits
	}
	n, _ := fresh(t, 3, 1)
	n.Elect()
	b := ballot(1, 1)
	n.On(leaseOf(api.MsgLeased, 0, 1, b, 0)) // it does not lead yet
	n.On(leaseOf(api.MsgLeased, 2, 1, b, 0))
	flush(t, n)
	promise(n, 3, 1, 0, b)
	if n.Phase() != api.PhaseLeading || ask(n) {
		t.Error("granted ahead of leading")
	}
	n.On(leaseOf(api.MsgLeased, 0, 1, ballot(1, 0), 0))
	n.On(leaseOf(api.MsgLeased, 2, 1, ballot(2, 1), 0))
	n.On(leaseOf(api.MsgLeased, 5, 1, b, 0)) // there is no such node
	n.On(leaseOf(api.MsgLeased, 0, 1, b, 0))
	n.On(leaseOf(api.MsgLeased, 0, 1, b, 0))
	if ask(n) {
		t.Error("granted by one")
	}
	n.On(leaseOf(api.MsgLeased, 2, 1, b, 40))
	if ask(n) {
		t.Error("asked later than now")
	}
	n.Tick(40)
	if !ask(n) {
		t.Error("not granted by two")
	}
	n.Tick(99)
	if !ask(n) {
		t.Error("not granted by two, at the last moment")
	}
	n.Tick(100)
	if ask(n) {
		t.Error("behind the last moment")
	}
}

func TestChosen(t *testing.T) {
	n, d := fresh(t, 3, 1)
	n.On(chosen(0, 1, 1, sealed("u", "c", 0)))
	n.On(chosen(2, 1, 1, sealed("u", "c", 0)))
	n.On(chosen(2, 1, 1, sealed("v", "c", 0))) // another one stands there
	wantSame(t, "entries", n.Entries(), []api.Entry{})
	m := chosen(1, 1, 0, sealed("t", "c", 0)) // what else it says does not matter
	m.Ballot, m.Time, m.Seen = ballot(3, 3), 5, []int{1}
	n.On(m)
	wantSame(t, "entries", n.Entries(), []api.Entry{sealed("t", "c", 0), sealed("u", "c", 0)})
	wantSame(t, "records", records(t, d, 1<<12), []string{messageRecord("C", chosen(1, 1, 1, sealed("u", "c", 0))), messageRecord("C", chosen(1, 1, 0, sealed("t", "c", 0)))})
	wantMessages(t, "nothing is told", n)
	n.On(chosen(0, 1, api.MaxSeq, noop()))
	wantLasting(t, "chosen", config(3), 1, n, d)
}

// What is chosen by votes is told to each other node, also if it cannot be learned here.
func TestChosenByVotes(t *testing.T) {
	n, _ := fresh(t, 5, 2)
	b := leads(t, n, 5, 2)
	call(t, n, checkout(1, "c", "t"))
	flush(t, n)
	n.On(inBallot(api.MsgAccepted, 4, 2, b, 0))
	n.On(inBallot(api.MsgAccepted, 4, 2, b, 0))
	n.On(inBallot(api.MsgAccepted, 6, 2, b, 0)) // there is no such node
	if len(n.Entries()) != 0 {
		t.Error("two are no majority")
	}
	n.On(inBallot(api.MsgAccepted, 0, 2, b, 0))
	e := sealed("t", "c", 0)
	wantSame(t, "messages", messages(flush(t, n)), []api.Msg{chosen(2, 0, 0, e), chosen(2, 1, 0, e), chosen(2, 3, 0, e), chosen(2, 4, 0, e)})
	n.On(inBallot(api.MsgAccepted, 1, 2, b, 0))
	wantMessages(t, "chosen already", n)
}

func TestDigests(t *testing.T) {
	n, _ := fresh(t, 3, 1)
	wantAnswered := func(what string, m api.Msg, wanted ...api.Msg) {
		t.Helper()
		n.On(m)
		wantMessages(t, what, n, wanted...)
	}
	wantAnswered("nothing", digest(0, 1, 0))
	wantAnswered("events", digest(0, 1, 0, 1), digest(1, 0, 0))
	wantAnswered("slots", digest(2, 1, 4), digest(1, 2, 0))
	wantAnswered("both", digest(2, 1, 4, 1), digest(1, 2, 0))
	wantAnswered("by itself", digest(1, 1, 4, 1))
	for i := range 20 {
		n.On(chosen(0, 1, i, sealed(fmt.Sprint("t", i), "c", i)))
	}
	n.On(chosen(0, 1, 22, noop())) // beyond a gap
	var events []api.Event
	for i := range 18 {
		call(t, n, update(i, "d", "tea", 1))
		e := adds(1, i+1, 1, 0, i)
		if i == 0 {
			e.Deps = nil
		}
		e.Cart = "d"
		events = append(events, e)
	}
	flush(t, n)
	slots := func(from, upto int) []api.Msg {
		var l []api.Msg
		for slot := from; slot < upto; slot++ {
			l = append(l, chosen(1, 0, slot, sealed(fmt.Sprint("t", slot), "c", slot)))
		}
		return l
	}
	wantAnswered("all", digest(0, 1, 0), append([]api.Msg{delta(1, 0, events[:16]...)}, slots(0, 16)...)...)
	wantAnswered("the rest", digest(0, 1, 16, 0, 16), append([]api.Msg{delta(1, 0, events[16:]...)}, slots(16, 20)...)...)
	wantAnswered("a part, and more", digest(0, 1, 15, 1, 17), append([]api.Msg{delta(1, 0, events[17:]...), digest(1, 0, 20, 0, 18)}, slots(15, 20)...)...)
	wantAnswered("the same", digest(0, 1, 20, 0, 18))
	wantAnswered("one slot less", digest(0, 1, 19, 0, 18), slots(19, 20)...)
	wantAnswered("one slot more", digest(0, 1, 21, 0, 18), digest(1, 0, 20, 0, 18))
	wantAnswered("many slots more", digest(0, 1, api.MaxSeq, 0, 18), digest(1, 0, 20, 0, 18))
	wantAnswered("slots and events more", digest(0, 1, 21, 0, 19), digest(1, 0, 20, 0, 18))
	wantAnswered("slots more, events less", digest(0, 1, 21, 0, 17), delta(1, 0, events[17:]...), digest(1, 0, 20, 0, 18))
	n.On(digest(1, 1, 0))
	if n.Held() != 0 {
		t.Error("by itself:", n.Held(), "held back")
	}
}

// Where another node can apply nothing of the first piece, a further one goes behind it, of which it can apply all.
func TestPieceThatWaits(t *testing.T) {
	n, _ := fresh(t, 3, 0)
	first := adds(2, 1, 1)
	n.On(delta(2, 0, first, adds(2, 2, 1, 0, 0, 1)))
	n.On(chosen(1, 0, 0, noop()))
	var own []api.Event
	for i := range 20 {
		call(t, n, update(i, "c", "tea", 1))
		own = append(own, adds(0, i+1, 1, i, 0, 2))
	}
	flush(t, n)
	wantAnswered := func(what string, m api.Msg, wanted ...api.Msg) {
		t.Helper()
		n.On(m)
		wantMessages(t, what, n, wanted...)
	}
	second := adds(2, 2, 1, 0, 0, 1)
	helpful := append([]api.Event{first, second}, own[:14]...)
	wantAnswered("all wait", digest(1, 0, 1), delta(0, 1, own[:16]...), delta(0, 1, helpful...))
	wantAnswered("all wait for one", digest(1, 0, 1, 0, 0, 1), delta(0, 1, own[:16]...), delta(0, 1, append(helpful[1:], own[14])...))
	wantAnswered("they are told behind a digest, ahead of entries", digest(1, 0, 0, 0, 1), delta(0, 1, own[:16]...), digest(0, 1, 1, 20, 0, 2), delta(0, 1, helpful...), chosen(0, 1, 0, noop()))
	wantAnswered("the first one is ready", digest(1, 0, 1, 0, 0, 2), delta(0, 1, own[:16]...))
	wantAnswered("the last one is ready", digest(1, 0, 1, 5), delta(0, 1, append(slices.Clone(own[5:]), first)...))
	wantAnswered("no more than a piece is missing", digest(1, 0, 1, 6), delta(0, 1, append(slices.Clone(own[6:]), first, second)...))

	other, _ := fresh(t, 3, 1)
	for range 2 {
		n.On(digest(1, 0, 1, other.Applied()...))
		for _, m := range messages(flush(t, n)) {
			other.On(m)
		}
	}
	wantSame(t, "all came", other.Events(), n.Events())
}

// Others' events that may be, and are not here yet, are recorded and taken.
func TestDeltas(t *testing.T) {
	n, d := fresh(t, 3, 1)
	call(t, n, update(1, "c", "tea", 1))
	flush(t, n)
	odd := adds(0, 1, 1, 1)    // it has seen itself
	own := adds(1, 2, 7, 0, 1) // this node did not make it
	early := adds(0, 3, 4, 2)
	n.On(delta(2, 1, odd, own, early, adds(0, 1, 2), early, adds(0, 1, 9), adds(0, 1, 2), adds(0, 2, 8, 1)))
	wantSame(t, "events", n.Events(), []api.Event{adds(0, 1, 2), adds(0, 2, 8, 1), early, adds(1, 1, 1)})
	wantSame(t, "records", records(t, d, 1<<12), []string{eventRecord(adds(1, 1, 1)), eventRecord(early), eventRecord(adds(0, 1, 2)), eventRecord(adds(0, 2, 8, 1))})
	wantMessages(t, "nothing is told", n)
	n.On(delta(2, 1, adds(0, 2, 8, 1), early))
	n.On(delta(2, 1))
	if l := records(t, d, 1<<12); len(l) != 4 {
		t.Error(len(l), "records")
	}
	n.On(delta(1, 1, adds(0, 4, 16, 3))) // also by itself: it is another node's
	wantSame(t, "the cart", n.Read("c"), tea(31))
	wantLasting(t, "deltas", config(3), 1, n, d)
}

// Of a delta what has room is taken.
func TestDeltaOnAFullDisk(t *testing.T) {
	d := newDisk(t, 73) // of the first one, the third, and the fourth
	n := start(t, config(3), 1, d, 0)
	long := adds(0, 2, 8, 1)
	long.Sku = strings.Repeat("x", 32)
	n.On(delta(0, 1, adds(0, 1, 2), long, adds(2, 1, 4), adds(0, 2, 1, 1), adds(0, 3, 1, 2)))
	wantSame(t, "events", n.Events(), []api.Event{adds(0, 1, 2), adds(0, 2, 1, 1), adds(2, 1, 4)})
	wantLasting(t, "a full disk", config(3), 1, n, d)
}

// A leader whose disk is full has entries chosen that it cannot learn, and the others tell clients of them: till
// it knows them too, it tells nobody by its lease that there are none.
func TestFullLeader(t *testing.T) {
	d := newDisk(t, 100)
	n := start(t, config(3), 1, d, 0)
	b := leads(t, n, 3, 1)
	lease(t, n, b, 10)
	call(t, n, status(1, "t"))
	wantAnswers(t, "ahead", n, api.Answer{Id: 1})
	fill(t, d)
	call(t, n, checkout(2, "c", "t"))
	if len(n.Votes()) != 0 {
		t.Error("a vote on a full disk")
	}
	flush(t, n)
	n.On(inBallot(api.MsgAccepted, 0, 1, b, 0))
	n.On(inBallot(api.MsgAccepted, 2, 1, b, 0))
	if len(n.Entries()) != 0 {
		t.Error("learned on a full disk")
	}
	wantMessages(t, "told all the same", n, chosen(1, 0, 0, sealed("t", "c", 0)), chosen(1, 2, 0, sealed("t", "c", 0)))
	call(t, n, status(3, "t"))
	if n.Waits() != 2 {
		t.Error("a status by a lease that does not know what is chosen")
	}
	flush(t, n)
	d.Remove("fill")
	n.On(chosen(0, 1, 0, sealed("t", "c", 0)))
	o := order(1, "t", "c", 0)
	wantAnswers(t, "learned", n, api.Answer{Id: 2, Order: o, Known: true, Learned: 1})
	call(t, n, status(4, "t"))
	wantAnswers(t, "by the lease", n, api.Answer{Id: 4, Order: o, Known: true, Learned: 1})
}
