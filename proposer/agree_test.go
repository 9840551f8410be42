package proposer_test

import (
	"fmt"
	"math/rand"
	"reflect"
	"slices"
	"testing"

	"pannier/acceptor"
	"pannier/api"
	"pannier/ballot"
	"pannier/proposer"
)

// place is a slot in a ballot.
type place struct {
	ballot api.Ballot
	slot   int
}

// group is nodes, each an acceptor and a proposer, what is on its way, and what was ever sent and chosen.
type group struct {
	acceptors []*acceptor.Acceptor
	proposers []*proposer.Proposer
	way       []api.Msg
	proposed  map[place]api.Entry
	voters    map[place][]int
	chosen    map[int]api.Entry // by slots
	started   map[int]api.Ballot
}

func newGroup(t *testing.T, nodes int) *group {
	t.Helper()
	g := &group{proposed: map[place]api.Entry{}, voters: map[place][]int{}, chosen: map[int]api.Entry{}, started: map[int]api.Ballot{}}
	for of := range nodes {
		a, err := acceptor.New(of)
		if err != api.OK {
			t.Fatal(err)
		}
		g.acceptors, g.proposers = append(g.acceptors, a), append(g.proposers, newProposer(t, of, nodes))
	}
	return g
}

// send lays messages on their way. P17.4: of one slot and ballot all of them ask for one entry.
func (g *group) send(t *testing.T, l []api.Msg) {
	t.Helper()
	for _, m := range l {
		if at := (place{m.Ballot, m.Slot}); m.Kind == api.MsgAccept {
			before, has := g.proposed[at]
			if has && !reflect.DeepEqual(plainEntry(before), plainEntry(m.Entry)) {
				t.Errorf("in %v two entries are proposed: %v, %v", at, before, m.Entry)
			}
			g.proposed[at] = m.Entry
		}
	}
	g.way = append(g.way, l...)
}

// choose looks whether P17.5 holds.
func (g *group) choose(t *testing.T, slot int, e api.Entry) {
	t.Helper()
	before, has := g.chosen[slot]
	if has && !reflect.DeepEqual(plainEntry(before), plainEntry(e)) {
		t.Errorf("in the slot %d two entries are chosen: %v, %v", slot, before, e)
	}
	g.chosen[slot] = e
}

// deliver has a message come. What a majority voted for in one ballot is chosen, whoever learns of it.
func (g *group) deliver(t *testing.T, m api.Msg) {
	t.Helper()
	if answer, _, is := g.acceptors[m.To].On(m); is {
		if at := (place{m.Ballot, m.Slot}); answer.Kind == api.MsgAccepted && !slices.Contains(g.voters[at], m.To) {
			g.voters[at] = append(slices.Clone(g.voters[at]), m.To)
			if len(g.voters[at]) >= ballot.Quorum(len(g.acceptors)) {
				g.choose(t, m.Slot, m.Entry)
			}
		}
		g.send(t, []api.Msg{answer})
		return
	}
	out, chosen := g.proposers[m.To].On(m)
	g.send(t, out)
	for _, v := range chosen {
		if at := (place{v.Ballot, v.Slot}); len(g.voters[at]) < ballot.Quorum(len(g.acceptors)) {
			t.Errorf("%v is told as chosen, by the votes of %v", v, g.voters[at])
		}
		g.choose(t, v.Slot, v.Entry)
	}
}

// start lets a node start. P17.4: its ballots rise.
func (g *group) start(t *testing.T, of int, floor api.Ballot, slot int) {
	t.Helper()
	out, err := g.proposers[of].Start(floor, slot)
	if err != api.OK {
		t.Errorf("Start: %d", err)
	}
	b := g.proposers[of].Ballot()
	if ballot.Compare(b, g.started[of]) <= 0 || ballot.Compare(b, floor) <= 0 || b.Node != of {
		t.Errorf("the node %d starts in %v behind %v", of, b, g.started[of])
	}
	g.started[of] = b
	g.send(t, out)
}

func (g *group) propose(t *testing.T, of int, e api.Entry) {
	t.Helper()
	next := g.proposers[of].Next()
	out, slot, err := g.proposers[of].Propose(e)
	if leads := g.proposers[of].Phase() == api.PhaseLeading; leads != (err == api.OK) || leads && slot != next {
		t.Errorf("Propose: %d, %d", slot, err)
	}
	g.send(t, out)
}

// anything is one thing that may happen: mostly some message comes, and may come again.
func (g *group) anything(t *testing.T, rng *rand.Rand, step int) {
	t.Helper()
	of := rng.Intn(len(g.proposers))
	switch what := rng.Intn(60); {
	case what == 0:
		g.start(t, of, g.acceptors[rng.Intn(len(g.acceptors))].Promised(), rng.Intn(3))
	case what == 1:
		g.start(t, of, api.Ballot{}, 0)
	case what < 6:
		g.propose(t, of, entry(fmt.Sprint("t", step)))
	case what == 6:
		g.send(t, g.proposers[of].Again())
	case what == 7 && rng.Intn(4) == 0:
		g.proposers[of].Stop()
	case len(g.way) > 0:
		at := rng.Intn(len(g.way))
		m := g.way[at]
		if rng.Intn(5) > 0 {
			g.way = slices.Delete(g.way, at, at+1)
		}
		if rng.Intn(8) > 0 {
			g.deliver(t, m)
		}
	}
}

func TestAgreementOfRandomScripts(t *testing.T) {
	chosen, rivals := 0, 0
	for seed := range int64(1500) {
		rng := rand.New(rand.NewSource(seed))
		g := newGroup(t, 1+rng.Intn(5))
		for step := range 400 {
			g.anything(t, rng, step)
		}
		if t.Failed() {
			t.Fatalf("seed %d", seed)
		}
		chosen += len(g.chosen)
		ballots := map[int]int{}
		for at := range g.voters {
			if ballots[at.slot]++; ballots[at.slot] == 2 {
				rivals++
			}
		}
	}
	if chosen < 1000 || rivals < 1000 {
		t.Errorf("too little was seen: %d chosen, %d slots with votes in several ballots", chosen, rivals)
	}
}

// When one leads and nobody is in its way, all that is sent again till it comes is chosen.
func TestAgreementGoesOn(t *testing.T) {
	for seed := range int64(100) {
		rng := rand.New(rand.NewSource(seed))
		g := newGroup(t, 1+rng.Intn(5))
		for step := range 200 {
			g.anything(t, rng, step)
		}
		g.way = nil
		for of := range g.proposers {
			g.proposers[of].Stop()
		}
		of := rng.Intn(len(g.proposers))
		leader := g.proposers[of]
		for range 100 {
			if leader.Phase() == api.PhaseIdle {
				g.start(t, of, g.acceptors[of].Promised(), 0)
			}
			for _, m := range leader.Again() {
				if rng.Intn(3) > 0 {
					g.deliver(t, m)
				}
			}
			for way := g.way; len(way) > 0; way = way[1:] {
				g.deliver(t, way[0])
			}
			g.way = nil
		}
		if leader.Phase() != api.PhaseLeading || len(leader.Flights()) != 0 {
			t.Fatalf("seed %d: %v", seed, stateOf(leader))
		}
		for slot := range leader.Next() {
			if _, has := g.chosen[slot]; !has {
				t.Errorf("seed %d: nothing is chosen in the slot %d", seed, slot)
			}
		}
	}
}
