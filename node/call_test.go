package node_test

import (
	"fmt"
	"math"
	"strings"
	"testing"

	"pannier/api"
	"pannier/node"
)

func TestWrongCalls(t *testing.T) {
	n, d := fresh(t, 1, 0)
	long := strings.Repeat("a", 33)
	right := api.Call{Id: 1, Cart: "c", Sku: "tea", Qty: 1, Token: "t"}
	of := func(kind int, change func(c *api.Call)) api.Call {
		c := right
		c.Kind = kind
		change(&c)
		return c
	}
	for _, kind := range []int{0, 5, -1, 9, 255, math.MinInt, math.MaxInt} {
		if err := n.Call(of(kind, func(*api.Call) {})); err != api.ErrCall {
			t.Errorf("kind %d: %d", kind, err)
		}
	}
	for _, name := range []string{"", long, "C", "a b", "a_", "\xff", "ä", "a\x00"} {
		for kind := api.CallUpdate; kind <= api.CallStatus; kind++ {
			for what, k := range map[string]struct {
				change func(c *api.Call)
				wrong  bool
			}{
				"cart":  {func(c *api.Call) { c.Cart = name }, true},
				"sku":   {func(c *api.Call) { c.Sku = name }, kind == api.CallUpdate},
				"token": {func(c *api.Call) { c.Token = name }, kind >= api.CallCheckout},
			} {
				if err := n.Call(of(kind, k.change)); (err == api.ErrCall) != k.wrong || !k.wrong && err != api.OK {
					t.Errorf("kind %d, %s %q: %d", kind, what, name, err)
				}
			}
		}
	}
	for _, qty := range []int{-1, 1001, math.MinInt, math.MaxInt} {
		for kind := api.CallUpdate; kind <= api.CallStatus; kind++ {
			wanted := api.OK
			if kind == api.CallUpdate {
				wanted = api.ErrCall
			}
			if err := n.Call(of(kind, func(c *api.Call) { c.Qty = qty })); err != wanted {
				t.Errorf("kind %d, qty %d: %d", kind, qty, err)
			}
		}
	}
	// What is refused is not answered, and does nothing.
	n, d = fresh(t, 1, 0)
	n.Call(of(api.CallUpdate, func(c *api.Call) { c.Qty = -1 }))
	n.Call(of(7, func(*api.Call) {}))
	if n.Held() != 0 || len(d.Files()) != 0 || n.Applied() != nil {
		t.Error("a wrong call did something")
	}
	for _, name := range []string{"a", strings.Repeat("z", 32), "0-9", "-"} {
		for _, qty := range []int{0, 1000} {
			call(t, n, api.Call{Kind: api.CallUpdate, Cart: name, Sku: name, Qty: qty})
		}
	}
}

// An update is an event, a record, and an answer that says what is applied behind it.
func TestUpdate(t *testing.T) {
	n, d := fresh(t, 3, 1)
	call(t, n, update(7, "c", "tea", 2))
	n.On(delta(2, 1, adds(2, 1, 4, 0, 1)))
	c := update(-8, "c", "tea", 3)
	c.Clears, c.Token = true, "no token"
	call(t, n, c)
	first, second := adds(1, 1, 2), adds(1, 2, 3, 0, 1, 1)
	second.Clears = true
	wantSame(t, "events", n.Events(), []api.Event{first, second, adds(2, 1, 4, 0, 1)})
	wantSame(t, "records", records(t, d, 1<<12), []string{eventRecord(first), eventRecord(adds(2, 1, 4, 0, 1)), eventRecord(second)})
	if n.Held() != 2 {
		t.Error(n.Held(), "are held back")
	}
	wantAnswers(t, "updates", n,
		api.Answer{Id: 7, Dot: api.Dot{Origin: 1, Seq: 1}, Applied: []int{0, 1}},
		api.Answer{Id: -8, Dot: api.Dot{Origin: 1, Seq: 2}, Applied: []int{0, 2, 1}})
	wantSame(t, "the cart", n.Read("c"), tea(3))
	// Its Epoch is the cart's.
	n.On(chosen(0, 1, 0, sealed("t", "c", 0, 0, 1)))
	call(t, n, update(9, "c", "tea", 5))
	call(t, n, update(10, "d", "tea", 5))
	third, fourth := adds(1, 3, 5, 0, 2, 1), adds(1, 4, 5, 0, 3, 1)
	third.Epoch, fourth.Cart = 1, "d"
	wantSame(t, "events", n.Events(), []api.Event{first, second, third, fourth, adds(2, 1, 4, 0, 1)})
	wantAnswers(t, "updates", n,
		api.Answer{Id: 9, Dot: api.Dot{Origin: 1, Seq: 3}, Applied: []int{0, 3, 1}, Learned: 1},
		api.Answer{Id: 10, Dot: api.Dot{Origin: 1, Seq: 4}, Applied: []int{0, 4, 1}, Learned: 1})
	wantLasting(t, "behind updates", config(3), 1, n, d)
}

// What cannot be recorded is refused, and not there.
func TestUpdateOnWrongDisks(t *testing.T) {
	c := config(1)
	d := newDisk(t, 100)
	n := start(t, c, 0, d, 0)
	count := 0
	for ; ; count++ {
		before := state(n)
		call(t, n, update(count, "c", "tea", 1))
		a := answers(flush(t, n))[0]
		if a.Err == api.OK {
			wantSame(t, "an update", a, api.Answer{Id: count, Dot: api.Dot{Seq: count + 1}, Applied: []int{count + 1}})
			continue
		}
		wantSame(t, "a full disk", a, api.Answer{Id: count, Err: api.ErrFull, Applied: []int{count}})
		if state(n) != before {
			t.Error("a full disk changed something")
		}
		break
	}
	if count == 0 || d.Left() > 30 {
		t.Error(count, "updates,", d.Left(), "bytes left")
	}
	call(t, n, read(5, "c"))
	wantAnswers(t, "a read", n, api.Answer{Id: 5, Lines: tea(count), Applied: []int{count}})
	wantLasting(t, "on a full disk", c, 0, n, d)

	n, d = fresh(t, 1, 0)
	call(t, n, update(1, "c", "tea", 1))
	flush(t, n)
	d.Stop(0)
	before := state(n)
	call(t, n, update(2, "c", "tea", 1))
	if out, err := n.Flush(); len(out) != 0 || err != api.ErrOff || n.Held() != 1 || state(n) != before {
		t.Error("off:", out, err, n.Held())
	}
	d.Crash(nil)
	wantAnswers(t, "on again", n, api.Answer{Id: 2, Err: api.ErrOff, Applied: []int{1}})
}

// Only records that are not this node's have an own event wait: then there can be no other one of its dot.
func TestUpdateOfADotThatWaits(t *testing.T) {
	d := written(t, eventRecord(adds(1, 1, 7, 1)))
	n := start(t, config(3), 1, d, 0)
	call(t, n, update(1, "c", "tea", 1))
	wantAnswers(t, "it waits", n, api.Answer{Id: 1, Err: api.ErrTwice})
	if l := records(t, d, 1<<12); len(l) != 1 {
		t.Error(len(l), "records")
	}
	n.On(delta(0, 1, adds(0, 1, 1)))
	call(t, n, update(2, "c", "tea", 1))
	wantAnswers(t, "the next one", n, api.Answer{Id: 2, Dot: api.Dot{Origin: 1, Seq: 2}, Applied: []int{1, 2}})
}

func TestRead(t *testing.T) {
	n, _ := fresh(t, 3, 1)
	call(t, n, read(1, "c"))
	n.On(delta(0, 1, adds(0, 1, 2), adds(0, 3, 9, 2)))
	call(t, n, read(2, "c"))
	n.On(chosen(0, 1, 0, sealed("t", "c", 0, 1)))
	n.On(chosen(0, 1, 2, noop()))
	call(t, n, read(3, "c"))
	call(t, n, update(4, "c", "tea", 5))
	call(t, n, read(5, "c"))
	call(t, n, read(6, "d"))
	wantAnswers(t, "reads", n,
		api.Answer{Id: 1},
		api.Answer{Id: 2, Lines: tea(2), Applied: []int{1}},
		api.Answer{Id: 3, Applied: []int{1}, Learned: 1},
		api.Answer{Id: 4, Dot: api.Dot{Origin: 1, Seq: 1}, Applied: []int{1, 1}, Learned: 1},
		api.Answer{Id: 5, Lines: tea(5), Applied: []int{1, 1}, Learned: 1},
		api.Answer{Id: 6, Applied: []int{1, 1}, Learned: 1})
}

// One node: Elect, Flush: it leads; a checkout, and two Flushes: an order.
func TestExample(t *testing.T) {
	n, d := fresh(t, 1, 0)
	call(t, n, update(1, "c", "tea", 2))
	n.Elect()
	if n.Phase() != api.PhasePreparing {
		t.Error("phase", n.Phase())
	}
	wantAnswers(t, "an update", n, api.Answer{Id: 1, Dot: api.Dot{Seq: 1}, Applied: []int{1}})
	if n.Phase() != api.PhaseLeading {
		t.Error("phase", n.Phase())
	}
	call(t, n, checkout(2, "c", "t"))
	if n.Waits() != 1 || n.Held() != 1 {
		t.Error(n.Waits(), "wait,", n.Held(), "held back")
	}
	wantAnswers(t, "not yet", n)
	if n.Waits() != 0 || n.Held() != 1 {
		t.Error(n.Waits(), "wait,", n.Held(), "held back")
	}
	wantAnswers(t, "an order", n, api.Answer{Id: 2, Order: order(1, "t", "c", 0, 1), Lines: tea(2), Known: true, Applied: []int{1}, Learned: 1})
	wantSame(t, "the cart", n.Read("c"), []api.Line{})
	wantLasting(t, "an order", config(1), 0, n, d)
}

func TestCheckoutAtANodeThatDoesNotLead(t *testing.T) {
	n, _ := fresh(t, 3, 1)
	call(t, n, checkout(1, "c", "t"))
	n.Elect()
	call(t, n, checkout(2, "c", "t"))
	if n.Waits() != 0 || n.Phase() != api.PhasePreparing {
		t.Error(n.Waits(), "wait, phase", n.Phase())
	}
	wantAnswers(t, "not leading", n, api.Answer{Id: 1, Err: api.ErrNone}, api.Answer{Id: 2, Err: api.ErrNone})
	// It knows what others had chosen: of any cart.
	n.On(delta(0, 1, adds(0, 1, 2)))
	n.On(chosen(0, 1, 0, sealed("t", "c", 0, 1)))
	call(t, n, checkout(3, "c", "t"))
	call(t, n, checkout(4, "d", "t"))
	call(t, n, checkout(5, "c", "u"))
	o := api.Answer{Order: order(1, "t", "c", 0, 1), Lines: tea(2), Known: true, Applied: []int{1}, Learned: 1}
	third, fourth := o, o
	third.Id, fourth.Id = 3, 4
	wantAnswers(t, "known", n, third, fourth, api.Answer{Id: 5, Err: api.ErrNone, Applied: []int{1}, Learned: 1})
}

// A token that is known, of an order that is not here as a whole: the others are asked, and the call waits.
func TestCheckoutThatIsNotWhole(t *testing.T) {
	n, _ := fresh(t, 4, 1)
	n.On(delta(0, 1, adds(0, 1, 2)))
	n.On(chosen(0, 1, 0, sealed("t", "c", 0, 2, 0, 1)))
	call(t, n, checkout(1, "c", "t"))
	call(t, n, checkout(2, "x", "t"))
	if n.Waits() != 2 {
		t.Error(n.Waits(), "wait")
	}
	wantMessages(t, "digests", n, digest(1, 0, 1, 1), digest(1, 2, 1, 1), digest(1, 3, 1, 1), digest(1, 0, 1, 1), digest(1, 2, 1, 1), digest(1, 3, 1, 1))
	n.On(delta(0, 1, adds(0, 2, 4, 1)))
	wantMessages(t, "not yet", n)
	n.On(chosen(0, 1, 1, noop()))
	wantMessages(t, "not yet", n)
	n.On(delta(0, 1, adds(2, 1, 8)))
	o := api.Answer{Id: 1, Order: order(1, "t", "c", 0, 2, 0, 1), Lines: tea(14), Known: true, Applied: []int{2, 0, 1}, Learned: 2}
	second := o
	second.Id = 2
	wantAnswers(t, "whole", n, o, second)
	if n.Waits() != 0 {
		t.Error(n.Waits(), "wait")
	}
}

// acceptToAll are what a leader sends to the others of three nodes.
func acceptToAll(from int, b api.Ballot, slot int, e api.Entry) []api.Msg {
	var l []api.Msg
	for to := range 3 {
		if to != from {
			l = append(l, accept(from, to, b, slot, e))
		}
	}
	return l
}

func TestCheckoutAtALeader(t *testing.T) {
	n, d := fresh(t, 3, 1)
	call(t, n, update(1, "c", "tea", 2))
	b := leads(t, n, 3, 1)
	flush(t, n)
	call(t, n, checkout(2, "c", "t"))
	call(t, n, checkout(3, "c", "t")) // there is a flight with that token
	call(t, n, update(4, "c", "tea", 1))
	e := sealed("t", "c", 0, 0, 1)
	wantSame(t, "votes", n.Votes(), []api.Voted{{Slot: 0, Ballot: b, Entry: e}})
	rec := records(t, d, 1<<12)
	wantSame(t, "the vote's record", rec[len(rec)-2], messageRecord("M", accept(1, 1, b, 0, e)))
	if n.Waits() != 2 || n.Held() != 4 { // two messages, its own vote, an update
		t.Error(n.Waits(), "wait,", n.Held(), "held back")
	}
	out := flush(t, n)
	wantSame(t, "messages", messages(out), acceptToAll(1, b, 0, e))
	wantSame(t, "answers", answers(out), []api.Answer{{Id: 4, Dot: api.Dot{Origin: 1, Seq: 2}, Applied: []int{0, 2}}})
	if len(n.Entries()) != 0 {
		t.Error("chosen by one")
	}
	n.On(inBallot(api.MsgAccepted, 2, 1, b, 0))
	wantSame(t, "entries", n.Entries(), []api.Entry{e})
	rec = records(t, d, 1<<12)
	wantSame(t, "the entry's record", rec[len(rec)-1], messageRecord("C", chosen(1, 1, 0, e)))
	out = flush(t, n)
	wantSame(t, "messages", messages(out), []api.Msg{chosen(1, 0, 0, e), chosen(1, 2, 0, e)})
	o := api.Answer{Id: 2, Order: order(1, "t", "c", 0, 0, 1), Lines: tea(2), Known: true, Applied: []int{0, 2}, Learned: 1}
	third := o
	third.Id = 3
	wantSame(t, "answers", answers(out), []api.Answer{o, third})
	wantSame(t, "the cart", n.Read("c"), tea(1))
	wantLasting(t, "behind a checkout", config(3), 1, n, d)
}

// Two checkouts of a cart at once: the second one's seal is stale, so it is proposed again, of the next epoch.
func TestStaleSealIsProposedAgain(t *testing.T) {
	n, _ := fresh(t, 3, 1)
	b := leads(t, n, 3, 1)
	call(t, n, update(1, "c", "tea", 2))
	call(t, n, checkout(2, "c", "t"))
	call(t, n, checkout(3, "c", "u"))
	call(t, n, update(4, "c", "tea", 1))
	flush(t, n)
	n.On(inBallot(api.MsgAccepted, 2, 1, b, 1)) // the second one first: there is a gap
	out := flush(t, n)
	wantSame(t, "chosen beyond a gap", messages(out), []api.Msg{chosen(1, 0, 1, sealed("u", "c", 0, 0, 1)), chosen(1, 2, 1, sealed("u", "c", 0, 0, 1))})
	wantSame(t, "answers", answers(out), []api.Answer{})
	n.On(inBallot(api.MsgAccepted, 2, 1, b, 0))
	out = flush(t, n)
	wantSame(t, "answers", answers(out), []api.Answer{{Id: 2, Order: order(1, "t", "c", 0, 0, 1), Lines: tea(2), Known: true, Applied: []int{0, 2}, Learned: 2}})
	again := sealed("u", "c", 1, 0, 2)
	var accepts []api.Msg
	for _, m := range messages(out) {
		if m.Kind == api.MsgAccept {
			accepts = append(accepts, m)
		}
	}
	wantSame(t, "again", accepts, acceptToAll(1, b, 2, again))
	n.On(inBallot(api.MsgAccepted, 2, 1, b, 2))
	wantAnswers(t, "the next epoch", n, api.Answer{Id: 3, Order: order(2, "u", "c", 1, 0, 2), Lines: tea(1), Known: true, Applied: []int{0, 2}, Learned: 3})
}

// While a node leads, a checkout whose token is in no flight is proposed again when events are applied.
func TestProposedAgainBehindEvents(t *testing.T) {
	n, _ := fresh(t, 3, 1)
	b := leads(t, n, 3, 1)
	call(t, n, checkout(1, "c", "t"))
	call(t, n, checkout(2, "c", "u"))
	flush(t, n)
	n.On(inBallot(api.MsgAccepted, 2, 1, b, 1)) // u is chosen, and can't be carried out yet
	flush(t, n)
	n.On(delta(0, 1, adds(0, 3, 1, 2))) // it waits, so nothing is applied
	n.On(delta(0, 1, adds(1, 1, 1)))
	n.On(delta(0, 1))
	wantMessages(t, "nothing applied", n)
	n.On(delta(0, 1, adds(0, 1, 1)))
	wantMessages(t, "again", n, acceptToAll(1, b, 2, sealed("u", "c", 0, 1))...)
	n.On(delta(0, 1, adds(2, 1, 1)))
	wantMessages(t, "it is in a flight", n)
	n.On(inBallot(api.MsgAccepted, 2, 1, b, 2))
	flush(t, n)
	call(t, n, update(3, "c", "tea", 1)) // one of its own
	wantSame(t, "again", messages(flush(t, n)), acceptToAll(1, b, 3, sealed("u", "c", 0, 1, 1, 1)))
}

// A checkout that waits is proposed when its node begins to lead, unless it is voted for already.
func TestProposedAgainByANewBallot(t *testing.T) {
	n, _ := fresh(t, 3, 1)
	b := leads(t, n, 3, 1)
	call(t, n, update(1, "c", "tea", 2))
	call(t, n, checkout(2, "c", "t"))
	call(t, n, checkout(3, "d", "u"))
	flush(t, n)
	n.On(inBallot(api.MsgNack, 0, 1, ballot(9, 0), 0))
	if n.Phase() != api.PhaseIdle || n.Waits() != 2 {
		t.Error("phase", n.Phase(), "wait", n.Waits())
	}
	wantMessages(t, "nothing", n)
	n.Elect()
	flush(t, n)
	next := ballot(10, 1)
	wantSame(t, "promised", n.Promised(), next)
	// Its own promise has told of t and u in the slots 0 and 1, another one of v in 0.
	promise(n, 3, 1, 0, next, api.Voted{Slot: 0, Ballot: ballot(2, 0), Entry: sealed("v", "d", 0)})
	if n.Phase() != api.PhaseLeading {
		t.Fatal("phase", n.Phase())
	}
	wanted := acceptToAll(1, next, 0, sealed("v", "d", 0))
	wanted = append(wanted, acceptToAll(1, next, 1, sealed("u", "d", 0, 0, 1))...)
	wanted = append(wanted, acceptToAll(1, next, 2, sealed("t", "c", 0, 0, 1))...)
	wantMessages(t, "a new ballot", n, wanted...)
	_ = b
}

// MaxPending calls may wait; what can be answered at once is.
func TestMaxPending(t *testing.T) {
	n, _ := fresh(t, 3, 1)
	n.On(chosen(0, 1, 0, sealed("known", "c", 0)))
	n.On(chosen(0, 1, 1, sealed("part", "c", 1, 1)))
	leads(t, n, 3, 1)
	for i := range api.MaxPending {
		if n.Waits() != i {
			t.Fatal(n.Waits(), "wait, not", i)
		}
		call(t, n, []api.Call{checkout(i, "c", fmt.Sprint("t", i)), status(i, "t"), checkout(i, "c", "t"), checkout(i, "c", "part")}[i%4])
	}
	if out := answers(flush(t, n)); len(out) != 0 {
		t.Error(out)
	}
	call(t, n, checkout(100, "c", "t"))
	call(t, n, checkout(101, "c", "t0"))
	call(t, n, checkout(102, "c", "part"))
	call(t, n, status(103, "t"))
	call(t, n, checkout(104, "c", "known"))
	if n.Waits() != api.MaxPending {
		t.Error(n.Waits(), "wait")
	}
	full := api.Answer{Err: api.ErrFull, Learned: 2}
	var wanted []api.Answer
	for id := 100; id < 104; id++ {
		full.Id = id
		wanted = append(wanted, full)
	}
	out := flush(t, n)
	wantSame(t, "full", answers(out), append(wanted, api.Answer{Id: 104, Order: order(1, "known", "c", 0), Known: true, Learned: 2}))
	wantSame(t, "messages", messages(out), []api.Msg{})
	// ErrNone comes ahead of ErrFull.
	n.On(inBallot(api.MsgNack, 0, 1, ballot(9, 0), 0))
	statuses := answers(flush(t, n))
	if len(statuses) != 16 || n.Waits() != 48 {
		t.Error(len(statuses), "statuses,", n.Waits(), "wait")
	}
	for i := range 16 {
		call(t, n, checkout(i, "c", "part"))
	}
	call(t, n, checkout(200, "c", "new"))
	call(t, n, status(201, "new"))
	call(t, n, checkout(202, "c", "part"))
	wantAnswers(t, "not leading", n, api.Answer{Id: 200, Err: api.ErrNone, Learned: 2}, api.Answer{Id: 201, Err: api.ErrNone, Learned: 2}, api.Answer{Id: 202, Err: api.ErrFull, Learned: 2})
}

// lease has n's lease count, as one of three nodes that leads.
func lease(t *testing.T, n *node.Node, b api.Ballot, now int) {
	t.Helper()
	n.Tick(now)
	n.Renew()
	flush(t, n) // its own grant comes
	n.On(leaseOf(api.MsgLeased, 2, 1, b, now))
}

func TestStatusAtANodeThatDoesNotLead(t *testing.T) {
	n, _ := fresh(t, 3, 1)
	n.On(chosen(0, 1, 0, sealed("t", "c", 0)))
	call(t, n, status(1, "t"))
	n.Elect()
	call(t, n, status(2, "t"))
	if n.Waits() != 0 {
		t.Error(n.Waits(), "wait")
	}
	wantAnswers(t, "not leading", n, api.Answer{Id: 1, Err: api.ErrNone, Learned: 1}, api.Answer{Id: 2, Err: api.ErrNone, Learned: 1})
}

func TestStatusByALease(t *testing.T) {
	n, _ := fresh(t, 3, 1)
	n.On(chosen(0, 1, 0, sealed("t", "c", 0)))
	b := leads(t, n, 3, 1)
	lease(t, n, b, 50)
	call(t, n, status(1, "t"))
	call(t, n, status(2, "u"))
	n.Tick(149)
	call(t, n, status(3, "t"))
	if n.Waits() != 0 {
		t.Error(n.Waits(), "wait")
	}
	known := api.Answer{Id: 1, Order: order(1, "t", "c", 0), Known: true, Learned: 1}
	third := known
	third.Id = 3
	out := flush(t, n)
	wantSame(t, "from a lease", answers(out), []api.Answer{known, {Id: 2, Learned: 1}, third})
	wantSame(t, "messages", messages(out), []api.Msg{})
	// Behind its last moment: through the log.
	n.Tick(150)
	call(t, n, status(4, "t"))
	if n.Waits() != 1 {
		t.Error(n.Waits(), "wait")
	}
	wantMessages(t, "through the log", n, acceptToAll(1, b, 1, noop())...)
	n.On(inBallot(api.MsgAccepted, 0, 1, b, 1))
	known.Id, known.Learned = 4, 2
	wantAnswers(t, "chosen", n, known)
	// A new ballot has no lease yet.
	lease(t, n, b, 200)
	n.Tick(300)
	n.Renew()
	n.Tick(400) // its own hold is over
	next := leads(t, n, 3, 1)
	n.On(leaseOf(api.MsgLeased, 2, 1, b, 400)) // of the ballot ahead
	n.On(leaseOf(api.MsgLeased, 0, 1, b, 400))
	if next == b {
		t.Error("the same ballot")
	}
	call(t, n, status(5, "t"))
	if n.Waits() != 1 {
		t.Error("a status by the lease of another ballot")
	}
}

// A leader's lease is not enough, till it knows all that it proposed when it began to lead.
func TestStatusAheadOfWhatMayBeChosen(t *testing.T) {
	n, _ := fresh(t, 3, 1)
	n.Elect()
	flush(t, n)
	b := n.Promised()
	promise(n, 3, 1, 0, b, api.Voted{Slot: 1, Ballot: ballot(0, 2), Entry: sealed("t", "c", 0)})
	flush(t, n)
	lease(t, n, b, 50)
	call(t, n, status(1, "t"))
	accepted(n, 3, 1, b, 0)
	call(t, n, status(2, "t"))
	accepted(n, 3, 1, b, 3) // the Noop of the second one
	if n.Waits() != 2 {
		t.Fatal(n.Waits(), "wait")
	}
	accepted(n, 3, 1, b, 1)
	call(t, n, status(3, "t")) // the prefix is behind both slots
	known := api.Answer{Id: 3, Order: order(1, "t", "c", 0), Known: true, Learned: 2}
	wantAnswers(t, "by the lease", n, known)
	call(t, n, checkout(4, "c", "u")) // what it proposed later does not matter
	call(t, n, status(5, "t"))
	known.Id = 5
	wantAnswers(t, "by the lease", n, known)
	accepted(n, 3, 1, b, 2)
	first, second := known, known
	first.Id, second.Id, first.Learned, second.Learned = 1, 2, 4, 4
	wantAnswers(t, "by the log", n, first, second)
}

func TestStatusByTheLog(t *testing.T) {
	n, _ := fresh(t, 3, 1)
	b := leads(t, n, 3, 1)
	call(t, n, checkout(1, "c", "t"))
	call(t, n, status(2, "t"))
	call(t, n, status(3, "u"))
	wanted := acceptToAll(1, b, 0, sealed("t", "c", 0))
	wanted = append(wanted, acceptToAll(1, b, 1, noop())...)
	wanted = append(wanted, acceptToAll(1, b, 2, noop())...)
	wantMessages(t, "Noops", n, wanted...)
	accepted(n, 3, 1, b, 1)
	accepted(n, 3, 1, b, 2)
	if n.Waits() != 3 || len(answers(flush(t, n))) != 0 {
		t.Error("ahead of slot 0", n.Waits())
	}
	accepted(n, 3, 1, b, 0)
	o := order(1, "t", "c", 0)
	wantAnswers(t, "carried out", n, api.Answer{Id: 1, Order: o, Known: true, Learned: 3}, api.Answer{Id: 2, Order: o, Known: true, Learned: 3}, api.Answer{Id: 3, Learned: 3})
}

// A Noop that another leader had chosen says nothing of this one's; when this one leads no more: ErrNone.
func TestStatusOfAnotherBallot(t *testing.T) {
	for name, end := range map[string]func(n *node.Node, b api.Ballot){
		"a Nack":        func(n *node.Node, b api.Ballot) { n.On(inBallot(api.MsgNack, 0, 1, ballot(9, 0), 0)) },
		"a new ballot":  func(n *node.Node, b api.Ballot) { n.Elect() },
		"a Nack, twice": func(n *node.Node, b api.Ballot) { n.On(inBallot(api.MsgNack, 0, 1, ballot(9, 0), 5)); n.Elect() },
	} {
		n, _ := fresh(t, 3, 1)
		b := leads(t, n, 3, 1)
		call(t, n, status(1, "t"))
		call(t, n, status(2, "t"))
		flush(t, n)
		n.On(chosen(0, 1, 0, noop()))
		n.On(chosen(0, 1, 1, noop()))
		n.On(chosen(0, 1, 2, noop()))
		if len(flush(t, n)) != 0 || n.Waits() != 2 {
			t.Error(name, "told by another leader's word")
		}
		accepted(n, 3, 1, b, 1) // in its own ballot, too
		out := flush(t, n)
		wantSame(t, name+": chosen in its ballot", answers(out), []api.Answer{{Id: 2, Learned: 3}})
		end(n, b)
		wantSame(t, name, answers(flush(t, n)), []api.Answer{{Id: 1, Err: api.ErrNone, Learned: 3}})
		if n.Waits() != 0 {
			t.Error(name, n.Waits(), "wait")
		}
	}
}

// One whose Noop was chosen waits on for the slots ahead, also when the node leads no more.
func TestStatusThatWasChosen(t *testing.T) {
	n, _ := fresh(t, 3, 1)
	b := leads(t, n, 3, 1)
	call(t, n, checkout(1, "c", "t"))
	call(t, n, status(2, "t"))
	call(t, n, status(3, "t"))
	flush(t, n)
	accepted(n, 3, 1, b, 1)
	n.On(inBallot(api.MsgNack, 0, 1, ballot(9, 0), 0))
	wantAnswers(t, "leads no more", n, api.Answer{Id: 3, Err: api.ErrNone})
	if n.Waits() != 2 {
		t.Error(n.Waits(), "wait")
	}
	n.On(chosen(0, 1, 0, sealed("t", "c", 0)))
	o := order(1, "t", "c", 0)
	wantAnswers(t, "learned", n, api.Answer{Id: 1, Order: o, Known: true, Learned: 2}, api.Answer{Id: 2, Order: o, Known: true, Learned: 2})
}

// What the proposer refuses is told to a status; a checkout waits, and is proposed when there is room.
func TestTooManyFlights(t *testing.T) {
	n, _ := fresh(t, 3, 1)
	n.Elect()
	flush(t, n)
	b := n.Promised()
	promise(n, 3, 1, 0, b, api.Voted{Slot: api.MaxList - 1, Ballot: ballot(0, 2), Entry: noop()})
	if n.Phase() != api.PhaseLeading {
		t.Fatal("phase", n.Phase())
	}
	flush(t, n)
	call(t, n, status(1, "t"))
	call(t, n, checkout(2, "c", "t"))
	if n.Waits() != 1 {
		t.Error(n.Waits(), "wait")
	}
	wantAnswers(t, "full", n, api.Answer{Id: 1, Err: api.ErrFull})
	accepted(n, 3, 1, b, 0)
	out := messages(flush(t, n))
	wantSame(t, "room", out[:2], acceptToAll(1, b, api.MaxList, sealed("t", "c", 0)))
	if n.Waits() != 1 {
		t.Error(n.Waits(), "wait")
	}
}
