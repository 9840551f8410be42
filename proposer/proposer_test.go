package proposer_test

import (
	"math"
	"reflect"
	"slices"
	"testing"

	"pannier/api"
	"pannier/proposer"
)

const node = 1 // whose proposer it is, of 3 nodes, unless a test says so

func newProposer(t *testing.T, of, nodes int) *proposer.Proposer {
	t.Helper()
	p, err := proposer.New(of, nodes)
	if p == nil || err != api.OK {
		t.Fatalf("New(%d, %d): %v, %d", of, nodes, p, err)
	}
	return p
}

func round(round, node int) api.Ballot {
	return api.Ballot{Round: round, Node: node}
}

func noop() api.Entry {
	return api.Entry{Noop: true}
}

func entry(token string, cut ...int) api.Entry {
	return api.Entry{Seal: api.Seal{Token: token, Cart: "c", Epoch: 3, Cut: cut}}
}

func voted(slot int, b api.Ballot, e api.Entry) api.Voted {
	return api.Voted{Slot: slot, Ballot: b, Entry: e}
}

// The answers of acceptors, for the node of the tests.

func promise(from int, b api.Ballot, slot int, votes ...api.Voted) api.Msg {
	return api.Msg{Kind: api.MsgPromise, From: from, To: node, Ballot: b, Slot: slot, Entry: noop(), Voted: votes}
}

func accepted(from int, b api.Ballot, slot int) api.Msg {
	return api.Msg{Kind: api.MsgAccepted, From: from, To: node, Ballot: b, Slot: slot, Entry: noop()}
}

func nack(from int, b api.Ballot) api.Msg {
	return api.Msg{Kind: api.MsgNack, From: from, To: node, Ballot: b, Entry: noop()}
}

// What the node of the tests sends, to those nodes.

func prepares(b api.Ballot, slot int, to ...int) []api.Msg {
	var out []api.Msg
	for _, x := range to {
		out = append(out, api.Msg{Kind: api.MsgPrepare, From: b.Node, To: x, Ballot: b, Slot: slot, Entry: noop()})
	}
	return out
}

func accepts(b api.Ballot, slot int, e api.Entry, to ...int) []api.Msg {
	var out []api.Msg
	for _, x := range to {
		out = append(out, api.Msg{Kind: api.MsgAccept, From: b.Node, To: x, Ballot: b, Slot: slot, Entry: e})
	}
	return out
}

func plainEntry(e api.Entry) api.Entry {
	e.Seal.Cut = append([]int(nil), e.Seal.Cut...)
	return e
}

// plainVotes is l without empty lists, since nil is the same.
func plainVotes(l []api.Voted) []api.Voted {
	var out []api.Voted
	for _, v := range l {
		v.Entry = plainEntry(v.Entry)
		out = append(out, v)
	}
	return out
}

func plainMsgs(l []api.Msg) []api.Msg {
	var out []api.Msg
	for _, m := range l {
		m.Entry, m.Voted = plainEntry(m.Entry), plainVotes(m.Voted)
		if len(m.Seen)+len(m.Events) == 0 {
			m.Seen, m.Events = nil, nil
		}
		out = append(out, m)
	}
	return out
}

func wantMsgs(t *testing.T, what string, got, wanted []api.Msg) {
	t.Helper()
	if !reflect.DeepEqual(plainMsgs(got), plainMsgs(wanted)) {
		t.Errorf("%s: sent\n%v, not\n%v", what, got, wanted)
	}
}

func wantVoted(t *testing.T, what string, got, wanted []api.Voted) {
	t.Helper()
	if !reflect.DeepEqual(plainVotes(got), plainVotes(wanted)) {
		t.Errorf("%s: %v, not %v", what, got, wanted)
	}
}

// state is all that a proposer tells of itself.
type state struct {
	phase   int
	ballot  api.Ballot
	seen    api.Ballot
	next    int
	flights []api.Voted
	again   []api.Msg
}

func stateOf(p *proposer.Proposer) state {
	return state{p.Phase(), p.Ballot(), p.Seen(), p.Next(), plainVotes(p.Flights()), plainMsgs(p.Again())}
}

func wantState(t *testing.T, what string, p *proposer.Proposer, wanted state) {
	t.Helper()
	wanted.flights, wanted.again = plainVotes(wanted.flights), plainMsgs(wanted.again)
	if got := stateOf(p); !reflect.DeepEqual(got, wanted) {
		t.Errorf("%s:\n%v, not\n%v", what, got, wanted)
	}
}

func wantOn(t *testing.T, what string, p *proposer.Proposer, m api.Msg, out []api.Msg, chosen ...api.Voted) {
	t.Helper()
	gotOut, gotChosen := p.On(m)
	wantMsgs(t, what, gotOut, out)
	wantVoted(t, what+": chosen", gotChosen, chosen)
}

// wantNone looks whether a message is passed over.
func wantNone(t *testing.T, what string, p *proposer.Proposer, m api.Msg) {
	t.Helper()
	before := stateOf(p)
	wantOn(t, what, p, m, nil)
	wantState(t, what, p, before)
}

func wantStart(t *testing.T, p *proposer.Proposer, floor api.Ballot, slot int, wanted []api.Msg) {
	t.Helper()
	got, err := p.Start(floor, slot)
	if err != api.OK {
		t.Fatalf("Start(%v, %d): %d", floor, slot, err)
	}
	wantMsgs(t, "Start", got, wanted)
}

func wantNoStart(t *testing.T, what string, p *proposer.Proposer, floor api.Ballot, slot int, wanted api.Errno) {
	t.Helper()
	before := stateOf(p)
	if got, err := p.Start(floor, slot); len(got) != 0 || err != wanted {
		t.Errorf("%s: Start(%v, %d): %v, %d, not %d", what, floor, slot, got, err, wanted)
	}
	wantState(t, what, p, before)
}

func wantPropose(t *testing.T, p *proposer.Proposer, e api.Entry, slot int, wanted []api.Msg) {
	t.Helper()
	got, at, err := p.Propose(e)
	if err != api.OK || at != slot {
		t.Fatalf("Propose(%v): %d, %d, not %d", e, at, err, slot)
	}
	wantMsgs(t, "Propose", got, wanted)
}

func wantNoPropose(t *testing.T, what string, p *proposer.Proposer, e api.Entry, wanted api.Errno) {
	t.Helper()
	before := stateOf(p)
	if got, slot, err := p.Propose(e); len(got) != 0 || slot != 0 || err != wanted {
		t.Errorf("%s: Propose(%v): %v, %d, %d, not %d", what, e, got, slot, err, wanted)
	}
	wantState(t, what, p, before)
}

func idle(seen api.Ballot) state {
	return state{phase: api.PhaseIdle, seen: seen}
}

func preparing(b api.Ballot, again ...api.Msg) state {
	return state{phase: api.PhasePreparing, ballot: b, seen: b, again: again}
}

// asking is a proposer of 3 nodes that is preparing from that slot on, in (1, 1).
func asking(t *testing.T, slot int) *proposer.Proposer {
	t.Helper()
	p := newProposer(t, node, 3)
	wantStart(t, p, api.Ballot{}, slot, prepares(round(1, node), slot, 0, 1, 2))
	return p
}

// leader is one that leads from the slot 4 on, in (1, 1), with the flights 4, 5 and 6, of which 5 has the vote of 2.
func leader(t *testing.T) *proposer.Proposer {
	t.Helper()
	p := asking(t, 4)
	p.On(promise(0, round(1, node), 4))
	p.On(promise(2, round(1, node), 4))
	for i, e := range []api.Entry{entry("a", 1, 2), noop(), entry("b")} {
		wantPropose(t, p, e, 4+i, accepts(round(1, node), 4+i, e, 0, 1, 2))
	}
	wantOn(t, "a vote", p, accepted(2, round(1, node), 5), nil)
	return p
}

func leaderState() state {
	b := round(1, node)
	return state{
		phase: api.PhaseLeading, ballot: b, seen: b, next: 7,
		flights: []api.Voted{voted(4, b, entry("a", 1, 2)), voted(5, b, noop()), voted(6, b, entry("b"))},
		again:   slices.Concat(accepts(b, 4, entry("a", 1, 2), 0, 1, 2), accepts(b, 5, noop(), 0, 1), accepts(b, 6, entry("b"), 0, 1, 2)),
	}
}

func numbers() []int {
	return []int{math.MinInt, -2, -1, 0, 1, 2, 6, 7, 8, api.MaxSeq - 1, api.MaxSeq, api.MaxSeq + 1, math.MaxInt - 1, math.MaxInt}
}

func TestNew(t *testing.T) {
	for _, nodes := range append(numbers(), 3, 4, 5) {
		for _, of := range append(numbers(), 3, 4, 5) {
			p, err := proposer.New(of, nodes)
			if 1 <= nodes && nodes <= 7 && 0 <= of && of < nodes {
				if p == nil || err != api.OK {
					t.Fatalf("New(%d, %d): %v, %d", of, nodes, p, err)
				}
				wantState(t, "a new one", p, idle(api.Ballot{}))
			} else if p != nil || err != api.ErrArg {
				t.Errorf("New(%d, %d): %v, %d", of, nodes, p, err)
			}
		}
	}
}

func TestExample(t *testing.T) {
	p := newProposer(t, 1, 3)
	wantStart(t, p, api.Ballot{}, 0, prepares(round(1, 1), 0, 0, 1, 2))
	wantState(t, "preparing", p, preparing(round(1, 1), prepares(round(1, 1), 0, 0, 1, 2)...))
	wantOn(t, "one promise", p, promise(0, round(1, 1), 0), nil)
	wantState(t, "one promise", p, preparing(round(1, 1), prepares(round(1, 1), 0, 1, 2)...))
	wantOn(t, "two promises", p, promise(2, round(1, 1), 0), nil)
	wantState(t, "it leads", p, state{phase: api.PhaseLeading, ballot: round(1, 1), seen: round(1, 1)})
}

// The ballot is the next one of the greater one of the floor and what it has seen.
func TestStartInABallot(t *testing.T) {
	p := newProposer(t, node, 3)
	for _, x := range []struct{ floor, wanted api.Ballot }{
		{round(0, 0), round(1, 1)},
		{round(0, 6), round(2, 1)}, // what it has seen is greater
		{round(2, 2), round(3, 1)}, // a greater node of the same round
		{round(3, 0), round(4, 1)}, // a lesser one
		{round(9, 0), round(10, 1)},
		{round(1, 6), round(11, 1)},
		{round(11, 1), round(12, 1)}, // the same
		{round(api.MaxSeq-2, 6), round(api.MaxSeq-1, 1)},
		{round(0, 0), round(api.MaxSeq, 1)},
	} {
		wantStart(t, p, x.floor, 8, prepares(x.wanted, 8, 0, 1, 2))
		wantState(t, "it is preparing", p, preparing(x.wanted, prepares(x.wanted, 8, 0, 1, 2)...))
	}
	for _, floor := range []api.Ballot{round(0, 0), round(api.MaxSeq, 0), round(api.MaxSeq, 6)} {
		wantNoStart(t, "behind the last round", p, floor, 8, api.ErrFull)
	}
	for _, p := range []*proposer.Proposer{newProposer(t, 0, 1), leader(t)} {
		wantNoStart(t, "a floor of the last round", p, round(api.MaxSeq, 0), 0, api.ErrFull)
		wantNoStart(t, "an argument goes ahead", p, round(api.MaxSeq, 0), -1, api.ErrArg)
	}
}

// Messages to all go to each node from 0 on, also to itself.
func TestStartOfAllSizes(t *testing.T) {
	for nodes := 1; nodes <= api.MaxNodes; nodes++ {
		for of := range nodes {
			p := newProposer(t, of, nodes)
			all := []int{0, 1, 2, 3, 4, 5, 6}[:nodes]
			wantStart(t, p, round(5, 6), 2, prepares(round(6, of), 2, all...))
		}
	}
}

func TestStartOfWrongArguments(t *testing.T) {
	for _, made := range []func(t *testing.T) *proposer.Proposer{
		func(t *testing.T) *proposer.Proposer { return newProposer(t, node, 3) },
		func(t *testing.T) *proposer.Proposer { return asking(t, 3) },
		leader,
	} {
		for _, x := range numbers() {
			if x < 0 || x > api.MaxSeq {
				wantNoStart(t, "a slot", made(t), api.Ballot{}, x, api.ErrArg)
				wantNoStart(t, "a round", made(t), round(x, 0), 0, api.ErrArg)
			}
			if x < 0 || x > 6 {
				wantNoStart(t, "a node", made(t), round(0, x), 0, api.ErrArg)
				wantNoStart(t, "a node beside a great round", made(t), round(api.MaxSeq, x), 0, api.ErrArg)
			}
		}
		for _, slot := range []int{0, 1, api.MaxSeq - 1, api.MaxSeq} {
			wantStart(t, made(t), round(8, 6), slot, prepares(round(9, node), slot, 0, 1, 2))
		}
	}
}

// Whatever it was, it starts anew, and heeds nothing of what it was told before.
func TestStartAnew(t *testing.T) {
	b := round(2, node)
	again := prepares(b, 4, 0, 1, 2)
	half := asking(t, 4)
	wantOn(t, "a promise", half, promise(0, round(1, node), 4, voted(5, round(0, 0), entry("old"))), nil)
	for what, p := range map[string]*proposer.Proposer{"preparing": half, "leading": leader(t)} {
		wantStart(t, p, api.Ballot{}, 4, again)
		wantState(t, what, p, preparing(b, again...))
		for _, m := range []api.Msg{promise(0, round(1, node), 4), accepted(0, round(1, node), 5), nack(0, round(1, node)), nack(0, round(2, 0))} {
			wantNone(t, what+": of the ballot before", p, m)
		}
		wantOn(t, what+": the first", p, promise(2, b, 4), nil)
		wantOn(t, what+": the second", p, promise(0, b, 4), nil)
		wantState(t, what+": it leads", p, state{phase: api.PhaseLeading, ballot: b, seen: b, next: 4})
		wantNone(t, what+": a flight of the ballot before", p, accepted(0, b, 5))
	}
}

// A majority is needed, of even numbers of nodes more than one half; of one node that one.
func TestPromisesOfAllSizes(t *testing.T) {
	for nodes, needed := range []int{1: 1, 2: 2, 3: 2, 4: 3, 5: 3, 6: 4, 7: 4} {
		if nodes == 0 {
			continue
		}
		p := newProposer(t, 0, nodes)
		b := round(1, 0)
		all := []int{0, 1, 2, 3, 4, 5, 6}[:nodes]
		wantStart(t, p, api.Ballot{}, 9, prepares(b, 9, all...))
		for i := range needed {
			if p.Phase() != api.PhasePreparing {
				t.Fatalf("%d of %d nodes: %d", i, nodes, p.Phase())
			}
			m := promise(nodes-1-i, b, 9)
			m.To = 0
			wantOn(t, "a promise", p, m, nil)
			wantNone(t, "told twice", p, m)
		}
		wantState(t, "it leads", p, state{phase: api.PhaseLeading, ballot: b, seen: b, next: 9})
		e := entry("t", 1)
		wantPropose(t, p, e, 9, accepts(b, 9, e, all...))
		for i := range needed {
			if len(p.Flights()) != 1 {
				t.Fatalf("%d of %d nodes: %v", i, nodes, p.Flights())
			}
			m := accepted(i, b, 9)
			m.To = 0
			var chosen []api.Voted
			if i == needed-1 {
				chosen = []api.Voted{voted(9, b, e)}
			}
			wantOn(t, "a vote", p, m, nil, chosen...)
			wantNone(t, "voted twice", p, m)
		}
		wantState(t, "it is chosen", p, state{phase: api.PhaseLeading, ballot: b, seen: b, next: 10})
	}
}

// What may be chosen already is proposed, a Noop in gaps; votes of slots below its own count nothing.
func TestPromisesWithVotes(t *testing.T) {
	b := round(1, node)
	old := func(n int) api.Ballot { return round(0, n) }
	for _, x := range []struct {
		what          string
		first, second []api.Voted
		wanted        []api.Entry // from the slot 4 on
	}{
		{"none", nil, nil, nil},
		{"its own slot", []api.Voted{voted(4, old(1), entry("a", 1))}, nil, []api.Entry{entry("a", 1)}},
		{"told last", nil, []api.Voted{voted(4, old(1), entry("a", 1))}, []api.Entry{entry("a", 1)}},
		{"the slot below", []api.Voted{voted(3, old(1), entry("a"))}, []api.Voted{voted(0, old(1), entry("b"))}, nil},
		{"below and above", []api.Voted{voted(3, old(1), entry("a")), voted(5, old(0), entry("b"))}, nil, []api.Entry{noop(), entry("b")}},
		{"gaps", []api.Voted{voted(5, old(1), entry("a", 0, 1))}, []api.Voted{voted(8, old(0), entry("b"))}, []api.Entry{noop(), entry("a", 0, 1), noop(), noop(), entry("b")}},
		{"falling slots", []api.Voted{voted(6, old(1), entry("a")), voted(4, old(1), entry("b"))}, nil, []api.Entry{entry("b"), noop(), entry("a")}},
		{"the greatest ballot, told first", []api.Voted{voted(4, old(2), entry("a"))}, []api.Voted{voted(4, old(1), entry("b"))}, []api.Entry{entry("a")}},
		{"the greatest ballot, told last", []api.Voted{voted(4, old(1), entry("a"))}, []api.Voted{voted(4, old(2), entry("b"))}, []api.Entry{entry("b")}},
		{"the same ballot: the first", []api.Voted{voted(4, old(2), entry("a"))}, []api.Voted{voted(4, old(2), entry("b"))}, []api.Entry{entry("a")}},
		{"the same ballot in one promise: the first", []api.Voted{voted(4, old(2), entry("b")), voted(4, old(2), entry("a"))}, nil, []api.Entry{entry("b")}},
		{"a Noop that was voted for", []api.Voted{voted(4, old(2), noop())}, []api.Voted{voted(4, old(1), entry("b"))}, []api.Entry{noop()}},
		{"a ballot above its own", []api.Voted{voted(4, old(2), entry("a"))}, []api.Voted{voted(4, round(7, 0), entry("b"))}, []api.Entry{entry("b")}},
	} {
		p := asking(t, 4)
		wantOn(t, x.what, p, promise(2, b, 4, x.first...), nil)
		wantState(t, x.what, p, preparing(b, prepares(b, 4, 0, 1)...))
		wanted := state{phase: api.PhaseLeading, ballot: b, seen: b, next: 4 + len(x.wanted)}
		for i, e := range x.wanted {
			wanted.flights = append(wanted.flights, voted(4+i, b, e))
			wanted.again = append(wanted.again, accepts(b, 4+i, e, 0, 1, 2)...)
		}
		wantOn(t, x.what, p, promise(1, b, 4, x.second...), wanted.again)
		wantState(t, x.what, p, wanted)
		wantNone(t, x.what+": a promise too late", p, promise(0, b, 4, voted(4, round(9, 0), entry("late"))))
	}
}

// A promise that is told twice counts once, and what it says the second time is not heeded.
func TestPromiseTwice(t *testing.T) {
	b := round(1, node)
	p := asking(t, 0)
	wantOn(t, "first", p, promise(2, b, 0, voted(0, round(0, 1), entry("a"))), nil)
	wantNone(t, "again", p, promise(2, b, 0, voted(0, round(0, 1), entry("a"))))
	wantNone(t, "with other votes", p, promise(2, b, 0, voted(0, round(0, 2), entry("x")), voted(3, round(0, 2), entry("y"))))
	wantOn(t, "another node", p, promise(0, b, 0), accepts(b, 0, entry("a"), 0, 1, 2))
}

func TestOtherPromises(t *testing.T) {
	b := round(1, node)
	vote := voted(5, round(0, 0), entry("a"))
	p := asking(t, 4)
	wantOn(t, "one", p, promise(0, b, 4), nil)
	for what, m := range map[string]api.Msg{
		"a lesser round":  promise(2, round(0, node), 4, vote),
		"a greater round": promise(2, round(2, node), 4, vote),
		"another's":       promise(2, round(1, 2), 4, vote),
		"a slot below":    promise(2, b, 3, vote),
		"a slot above":    promise(2, b, 5, vote),
		"no such node":    promise(3, b, 4, vote),
		"no such node, 6": promise(6, b, 4, vote),
	} {
		wantNone(t, what, p, m)
	}
	wantOn(t, "the second", p, promise(2, b, 4, vote), slices.Concat(accepts(b, 4, noop(), 0, 1, 2), accepts(b, 5, entry("a"), 0, 1, 2)))
}

// Slots are proposed one behind the other, chosen in any order.
func TestAccepted(t *testing.T) {
	b := round(1, node)
	p := leader(t)
	wanted := leaderState()
	wantState(t, "at first", p, wanted)
	for what, m := range map[string]api.Msg{
		"voted already":   accepted(2, b, 5),
		"a lesser ballot": accepted(0, round(0, node), 5),
		"another's":       accepted(0, round(1, 2), 5),
		"another's below": accepted(0, round(1, 0), 5),
		"a greater one":   accepted(0, round(2, node), 5),
		"the slot below":  accepted(0, b, 3),
		"the slot above":  accepted(0, b, 7),
		"slot 0":          accepted(0, b, 0),
		"no such node":    accepted(3, b, 5),
	} {
		wantNone(t, what, p, m)
	}
	wantOn(t, "of 5", p, accepted(0, b, 5), nil, voted(5, b, noop()))
	wanted.flights = []api.Voted{wanted.flights[0], wanted.flights[2]}
	wanted.again = slices.Concat(wanted.again[:3], wanted.again[5:])
	wantState(t, "5 is chosen", p, wanted)
	wantNone(t, "the third vote", p, accepted(1, b, 5))
	wantOn(t, "its own", p, accepted(1, b, 6), nil)
	wantOn(t, "of 6", p, accepted(0, b, 6), nil, voted(6, b, entry("b")))
	wantPropose(t, p, entry("n", 7), 7, accepts(b, 7, entry("n", 7), 0, 1, 2))
	wantOn(t, "of 4", p, accepted(0, b, 4), nil)
	wantOn(t, "of 4", p, accepted(2, b, 4), nil, voted(4, b, entry("a", 1, 2)))
	wantState(t, "one is left", p, state{phase: api.PhaseLeading, ballot: b, seen: b, next: 8, flights: []api.Voted{voted(7, b, entry("n", 7))}, again: accepts(b, 7, entry("n", 7), 0, 1, 2)})
}

// A vote counts nothing, while it is preparing or idle.
func TestAcceptedTooEarly(t *testing.T) {
	b := round(1, node)
	p := asking(t, 4)
	wantNone(t, "preparing", p, accepted(0, b, 4))
	wantOn(t, "one", p, promise(0, b, 4, voted(4, round(0, 0), entry("a"))), nil)
	wantNone(t, "preparing", p, accepted(2, b, 4))
	wantOn(t, "two", p, promise(1, b, 4), accepts(b, 4, entry("a"), 0, 1, 2))
	wantOn(t, "a vote", p, accepted(0, b, 4), nil)
	p.Stop()
	wantNone(t, "idle", p, accepted(2, b, 4))
	wantNone(t, "idle, in the empty ballot", p, accepted(2, api.Ballot{}, 4))
	wantNone(t, "a new one", newProposer(t, node, 3), accepted(2, api.Ballot{}, 0))
	wantNone(t, "a new one, promised", newProposer(t, node, 3), promise(2, api.Ballot{}, 0))
}

func TestNack(t *testing.T) {
	for what, made := range map[string]func() *proposer.Proposer{
		"preparing": func() *proposer.Proposer { return asking(t, 4) },
		"leading":   func() *proposer.Proposer { return leader(t) },
	} {
		for _, b := range []api.Ballot{round(0, 0), round(0, 6), round(1, 0), round(1, node)} {
			wantNone(t, what+": not above", made(), nack(0, b))
		}
		for _, b := range []api.Ballot{round(1, 2), round(1, 6), round(2, 0), round(2, node), round(api.MaxSeq, 6)} {
			p := made()
			wantNone(t, what+": no such node", p, nack(3, b))
			for _, slot := range []int{0, 4, 77} {
				p := p.Fork()
				m := nack(2, b)
				m.Slot = slot
				wantOn(t, what, p, m, nil)
				wantState(t, what, p, idle(b))
			}
		}
	}
}

// An idle one heeds no MsgNack; of the next start the ballot is above what it was told before.
func TestNackAndStart(t *testing.T) {
	p := newProposer(t, node, 3)
	wantNone(t, "a new one", p, nack(0, round(5, 0)))
	p = leader(t)
	wantOn(t, "above", p, nack(0, round(5, 0)), nil)
	wantNone(t, "idle", p, nack(0, round(9, 0)))
	wantNone(t, "idle, below", p, nack(0, round(3, 0)))
	wantStart(t, p, round(2, 2), 0, prepares(round(6, node), 0, 0, 1, 2))
	wantOn(t, "of its round", p, nack(0, round(6, 2)), nil)
	wantState(t, "of its round", p, idle(round(6, 2)))
	wantStart(t, p, round(6, 3), 0, prepares(round(7, node), 0, 0, 1, 2))
	wantOn(t, "the last one", p, nack(0, round(api.MaxSeq, 2)), nil)
	wantNoStart(t, "above the last round", p, api.Ballot{}, 0, api.ErrFull)
}

func TestPropose(t *testing.T) {
	b := round(1, node)
	wantNoPropose(t, "idle", newProposer(t, node, 3), noop(), api.ErrNone)
	wantNoPropose(t, "preparing", asking(t, 4), entry("a"), api.ErrNone)
	p := leader(t)
	wantPropose(t, p, noop(), 7, accepts(b, 7, noop(), 0, 1, 2))
	wantPropose(t, p, entry("a", 1, 2), 8, accepts(b, 8, entry("a", 1, 2), 0, 1, 2)) // an entry may be in two slots
	p.Stop()
	wantNoPropose(t, "stopped", p, noop(), api.ErrNone)
}

func TestProposeOfWrongEntries(t *testing.T) {
	seal := func(change func(s *api.Seal)) api.Entry {
		e := entry("t", 1)
		change(&e.Seal)
		return e
	}
	for what, e := range map[string]api.Entry{
		"nothing":                {},
		"a Noop with a token":    {Noop: true, Seal: api.Seal{Token: "t"}},
		"a Noop with a cart":     {Noop: true, Seal: api.Seal{Cart: "c"}},
		"a Noop with an epoch":   {Noop: true, Seal: api.Seal{Epoch: 1}},
		"a Noop with a cut":      {Noop: true, Seal: api.Seal{Cut: []int{1}}},
		"no token":               seal(func(s *api.Seal) { s.Token = "" }),
		"a token of 33 bytes":    seal(func(s *api.Seal) { s.Token = "ttttttttttttttttttttttttttttttttt" }),
		"a wrong token":          seal(func(s *api.Seal) { s.Token = "T" }),
		"no cart":                seal(func(s *api.Seal) { s.Cart = "" }),
		"a wrong cart":           seal(func(s *api.Seal) { s.Cart = "c c" }),
		"an epoch below 0":       seal(func(s *api.Seal) { s.Epoch = -1 }),
		"an epoch above all":     seal(func(s *api.Seal) { s.Epoch = api.MaxSeq + 1 }),
		"a cut that ends with 0": seal(func(s *api.Seal) { s.Cut = []int{1, 0} }),
		"a cut below 0":          seal(func(s *api.Seal) { s.Cut = []int{-1} }),
		"a cut above all":        seal(func(s *api.Seal) { s.Cut = []int{api.MaxSeq + 1} }),
		"a cut of 8":             seal(func(s *api.Seal) { s.Cut = []int{1, 1, 1, 1, 1, 1, 1, 1} }),
	} {
		for _, p := range []*proposer.Proposer{newProposer(t, node, 3), asking(t, 4), leader(t)} {
			wantNoPropose(t, what, p, e, api.ErrArg)
		}
	}
}

// What is waited for is sent again to those alone who have not answered, as often as one likes.
func TestAgain(t *testing.T) {
	b := round(1, 0)
	p := newProposer(t, 0, 5)
	wantMsgs(t, "idle", p.Again(), nil)
	wantStart(t, p, api.Ballot{}, 3, prepares(b, 3, 0, 1, 2, 3, 4))
	to0 := func(m api.Msg) api.Msg {
		m.To = 0
		return m
	}
	wantMsgs(t, "all", p.Again(), prepares(b, 3, 0, 1, 2, 3, 4))
	p.On(to0(promise(3, b, 3)))
	p.On(to0(promise(0, b, 3, voted(5, round(0, 4), entry("x")))))
	for range 2 {
		wantMsgs(t, "three are left", p.Again(), prepares(b, 3, 1, 2, 4))
	}
	p.On(to0(promise(4, b, 3)))
	p.On(to0(accepted(2, b, 4)))
	p.On(to0(accepted(0, b, 4)))
	p.On(to0(accepted(4, b, 3)))
	for range 2 {
		wantMsgs(t, "three flights", p.Again(), slices.Concat(accepts(b, 3, noop(), 0, 1, 2, 3), accepts(b, 4, noop(), 1, 3, 4), accepts(b, 5, entry("x"), 0, 1, 2, 3, 4)))
	}
	p.On(to0(accepted(1, b, 4)))
	wantMsgs(t, "two flights", p.Again(), slices.Concat(accepts(b, 3, noop(), 0, 1, 2, 3), accepts(b, 5, entry("x"), 0, 1, 2, 3, 4)))
	p.Stop()
	wantMsgs(t, "stopped", p.Again(), nil)
}

func TestStop(t *testing.T) {
	for what, p := range map[string]*proposer.Proposer{"preparing": asking(t, 4), "leading": leader(t)} {
		for range 2 {
			p.Stop()
			wantState(t, what, p, idle(round(1, node)))
		}
		wantNone(t, what, p, promise(0, round(1, node), 4))
		wantNone(t, what, p, nack(0, round(3, 0)))
		wantStart(t, p, api.Ballot{}, 0, prepares(round(2, node), 0, 0, 1, 2))
	}
	p := newProposer(t, node, 3)
	p.Stop()
	wantState(t, "a new one", p, idle(api.Ballot{}))
}

func TestForkOfOneThatPrepares(t *testing.T) {
	b := round(1, node)
	p := asking(t, 4)
	p.On(promise(2, b, 4, voted(4, round(0, 0), entry("a", 1)), voted(4, round(0, 1), entry("b", 2)), voted(4, round(0, 2), entry("c", 3))))
	other := p.Fork()
	third := other.Fork()
	wantOn(t, "the fork", other, promise(0, b, 4, voted(4, round(0, 5), entry("d", 4)), voted(5, round(0, 5), noop())), slices.Concat(accepts(b, 4, entry("d", 4), 0, 1, 2), accepts(b, 5, noop(), 0, 1, 2)))
	wantState(t, "the first", p, preparing(b, prepares(b, 4, 0, 1)...))
	wantOn(t, "the first", p, promise(1, b, 4, voted(4, round(0, 1), entry("e", 5))), accepts(b, 4, entry("c", 3), 0, 1, 2))
	wantState(t, "the fork's fork", third, preparing(b, prepares(b, 4, 0, 1)...))
	third.Stop()
	wantState(t, "stopped", third, idle(b))
	if p.Phase() != api.PhaseLeading || other.Phase() != api.PhaseLeading {
		t.Error("the others lead")
	}
	wantStart(t, third, api.Ballot{}, 1, prepares(round(2, node), 1, 0, 1, 2))
}

// Lists of votes that have grown side by side are not one list.
func TestForkOfKeptVotes(t *testing.T) {
	for before := 1; before <= 6; before++ {
		b := round(1, 0)
		p := newProposer(t, 0, 7)
		p.Start(api.Ballot{}, 0)
		told := func(p *proposer.Proposer, from int, votes ...api.Voted) []api.Msg {
			m := promise(from, b, 0, votes...)
			m.To = 0
			out, _ := p.On(m)
			return out
		}
		var votes []api.Voted
		for i := range before {
			votes = append(votes, voted(0, round(0, 0), entry("a", i+1)))
		}
		told(p, 1, votes...)
		other := p.Fork()
		told(p, 2, voted(0, round(0, 1), entry("p")))
		told(other, 2, voted(0, round(0, 2), entry("o")))
		told(p, 3)
		told(other, 3)
		all := []int{0, 1, 2, 3, 4, 5, 6}
		wantMsgs(t, "the first", told(p, 4), accepts(b, 0, entry("p"), all...))
		wantMsgs(t, "its fork", told(other, 4), accepts(b, 0, entry("o"), all...))
	}
}

func TestForkOfALeader(t *testing.T) {
	b := round(1, node)
	p := leader(t)
	other, third := p.Fork(), p.Fork()
	wantOn(t, "the fork", other, accepted(0, b, 5), nil, voted(5, b, noop()))
	wantOn(t, "the fork", other, accepted(0, b, 4), nil)
	wantPropose(t, third, entry("n"), 7, accepts(b, 7, entry("n"), 0, 1, 2))
	wantState(t, "the first", p, leaderState())
	wantOn(t, "the third", third, nack(0, round(2, 0)), nil)
	wantState(t, "the first", p, leaderState())
	wantOn(t, "the first", p, accepted(1, b, 5), nil, voted(5, b, noop()))
	wantNone(t, "a fork is of the same node", other, api.Msg{Kind: api.MsgNack, To: 0, Ballot: round(9, 0), Entry: noop()})
	wantNone(t, "and of as many nodes", other, nack(3, round(9, 0)))
	wantState(t, "the third", third, idle(round(2, 0)))
}

// A proposer that no call made is as a nil one.
func TestNilProposer(t *testing.T) {
	for _, p := range []*proposer.Proposer{nil, {}} {
		for _, slot := range []int{-1, 0, 5} {
			wantNoStart(t, "nil", p, api.Ballot{}, slot, api.ErrClosed)
		}
		wantNoPropose(t, "nil", p, noop(), api.ErrClosed)
		wantNoPropose(t, "nil", p, api.Entry{}, api.ErrClosed)
		for _, m := range []api.Msg{{}, promise(0, api.Ballot{}, 0), accepted(0, api.Ballot{}, 0), nack(0, round(1, 0))} {
			m.To = 0
			wantNone(t, "nil", p, m)
		}
		p.Stop()
		wantState(t, "nil", p, state{})
		if p.Fork() != nil {
			t.Error("Fork")
		}
	}
}
