package proposer_test

import (
	"math/rand"
	"slices"
	"testing"

	"pannier/api"
	"pannier/ballot"
	"pannier/proposer"
)

// plainProposer has all that it was told since it started, and works out of that what it is at.
type plainProposer struct {
	of, nodes int
	used      []api.Ballot // all that it used or was told of
	stopped   bool
	ballot    api.Ballot
	slot      int
	promises  []api.Msg   // that count, of its ballot
	proposed  []api.Voted // in its ballot
	votes     []api.Msg   // that count, of its ballot
}

func newPlain(of, nodes int) *plainProposer {
	return &plainProposer{of: of, nodes: nodes, stopped: true, used: []api.Ballot{{}}}
}

func (p *plainProposer) seen() api.Ballot {
	return slices.MaxFunc(p.used, ballot.Compare)
}

func (p *plainProposer) phase() int {
	switch {
	case p.stopped:
		return api.PhaseIdle
	case 2*len(p.promises) <= p.nodes:
		return api.PhasePreparing
	}
	return api.PhaseLeading
}

func (p *plainProposer) all() []int {
	return []int{0, 1, 2, 3, 4, 5, 6}[:p.nodes]
}

func (p *plainProposer) start(floor api.Ballot, slot int) []api.Msg {
	greater := p.seen()
	if ballot.Compare(floor, greater) > 0 {
		greater = floor
	}
	b := round(greater.Round+1, p.of)
	*p = plainProposer{of: p.of, nodes: p.nodes, used: append(p.used, b), ballot: b, slot: slot}
	return prepares(b, slot, p.all()...)
}

func (p *plainProposer) propose(e api.Entry) ([]api.Msg, int) {
	slot := p.slot + len(p.proposed)
	p.proposed = append(p.proposed, voted(slot, p.ballot, e))
	return accepts(p.ballot, slot, e, p.all()...), slot
}

// voters are those who voted for the slot.
func (p *plainProposer) voters(slot int) []int {
	var voters []int
	for _, m := range p.votes {
		if m.Slot == slot {
			voters = append(voters, m.From)
		}
	}
	return voters
}

func (p *plainProposer) flights() []api.Voted {
	if p.phase() != api.PhaseLeading {
		return nil
	}
	return slices.DeleteFunc(slices.Clone(p.proposed), func(v api.Voted) bool { return 2*len(p.voters(v.Slot)) > p.nodes })
}

func (p *plainProposer) state() state {
	s := state{phase: p.phase(), seen: p.seen(), flights: p.flights()}
	if s.phase == api.PhaseIdle {
		return s
	}
	s.ballot = p.ballot
	if s.phase == api.PhasePreparing {
		s.again = slices.DeleteFunc(prepares(p.ballot, p.slot, p.all()...), func(m api.Msg) bool { return fromOne(p.promises, m.To) })
		return s
	}
	s.next = p.slot + len(p.proposed)
	for _, v := range s.flights {
		voters := p.voters(v.Slot)
		s.again = append(s.again, slices.DeleteFunc(accepts(p.ballot, v.Slot, v.Entry, p.all()...), func(m api.Msg) bool { return slices.Contains(voters, m.To) })...)
	}
	return s
}

func fromOne(l []api.Msg, from int) bool {
	return slices.ContainsFunc(l, func(m api.Msg) bool { return m.From == from })
}

// on is On of a message that may be, for the node, by a node that there is.
func (p *plainProposer) on(m api.Msg) (out []api.Msg, chosen []api.Voted) {
	phase := p.phase()
	switch {
	case phase == api.PhasePreparing && m.Kind == api.MsgPromise && m.Ballot == p.ballot && m.Slot == p.slot && !fromOne(p.promises, m.From):
		p.promises = append(p.promises, m)
		if p.phase() == api.PhaseLeading {
			out = p.begin()
		}
	case phase == api.PhaseLeading && m.Kind == api.MsgAccepted && m.Ballot == p.ballot && !slices.Contains(p.voters(m.Slot), m.From):
		at := slices.IndexFunc(p.flights(), func(v api.Voted) bool { return v.Slot == m.Slot })
		if at < 0 {
			return nil, nil
		}
		before := p.flights()
		p.votes = append(p.votes, m)
		if len(p.flights()) < len(before) {
			chosen = before[at : at+1]
		}
	case phase != api.PhaseIdle && m.Kind == api.MsgNack && ballot.Compare(m.Ballot, p.ballot) > 0:
		p.stopped = true
		p.used = append(p.used, m.Ballot)
	}
	return out, chosen
}

func (p *plainProposer) begin() []api.Msg {
	var votes []api.Voted
	greatest := -1
	for _, m := range p.promises {
		votes = append(votes, m.Voted...)
	}
	for _, v := range votes {
		greatest = max(greatest, v.Slot)
	}
	if greatest-p.slot+1 > api.MaxList {
		p.stopped = true
		return nil
	}
	var out []api.Msg
	for slot := p.slot; slot <= greatest; slot++ {
		e, _ := ballot.Pick(votes, slot)
		sent, _ := p.propose(e)
		out = append(out, sent...)
	}
	return out
}

func randomEntry(rng *rand.Rand) api.Entry {
	entries := []api.Entry{noop(), entry("a"), entry("a", 1), entry("b", 0, 2)}
	return entries[rng.Intn(len(entries))]
}

// randomMessage is an answer by some node, most often one that p waits for.
func randomMessage(rng *rand.Rand, p *plainProposer) api.Msg {
	kinds := []int{api.MsgPromise, api.MsgPromise, api.MsgPromise, api.MsgAccepted, api.MsgAccepted, api.MsgAccepted, api.MsgAccepted, api.MsgNack}
	m := api.Msg{Kind: kinds[rng.Intn(len(kinds))], From: rng.Intn(p.nodes), To: p.of, Ballot: p.ballot, Slot: p.slot, Entry: noop()}
	if m.Kind == api.MsgAccepted {
		m.Slot += rng.Intn(4)
	}
	if m.Kind == api.MsgPromise {
		for range rng.Intn(4) {
			m.Voted = append(m.Voted, voted(rng.Intn(7), round(rng.Intn(3), rng.Intn(3)), randomEntry(rng)))
		}
		if rng.Intn(40) == 0 {
			m.Voted = append(m.Voted, voted(p.slot+api.MaxList, round(0, 0), noop()))
		}
	}
	if rng.Intn(8) == 0 || m.Kind == api.MsgNack {
		m.Ballot = round(p.ballot.Round+rng.Intn(3)-1, rng.Intn(7))
		m.Ballot.Round = max(m.Ballot.Round, 0)
	}
	if rng.Intn(12) == 0 {
		m.Slot = max(m.Slot-1, 0)
	}
	return m
}

func spoiled(rng *rand.Rand, m api.Msg, nodes int) api.Msg {
	switch rng.Intn(5) {
	case 0:
		m.To = (m.To + 1 + rng.Intn(6)) % 7
	case 1:
		m.Kind = 6 + rng.Intn(9)
	case 2:
		m.Slot = -1 - rng.Intn(9)
	case 3:
		m.Entry = api.Entry{}
	case 4:
		m.From = nodes + rng.Intn(3)
	}
	return m
}

// step lets both do the same, and looks whether they answer the same.
func step(t *testing.T, rng *rand.Rand, p *proposer.Proposer, plain *plainProposer) {
	t.Helper()
	switch rng.Intn(12) {
	case 0:
		floor, slot := round(rng.Intn(8), rng.Intn(7)), rng.Intn(5)
		wantStart(t, p, floor, slot, plain.start(floor, slot))
	case 1, 2:
		e := randomEntry(rng)
		if plain.phase() != api.PhaseLeading {
			wantNoPropose(t, "it does not lead", p, e, api.ErrNone)
			return
		}
		out, slot := plain.propose(e)
		wantPropose(t, p, e, slot, out)
	case 3:
		if rng.Intn(6) == 0 {
			p.Stop()
			plain.stopped = true
		}
	case 4:
		wantNone(t, "spoiled", p, spoiled(rng, randomMessage(rng, plain), plain.nodes))
	default:
		m := randomMessage(rng, plain)
		out, chosen := plain.on(m)
		wantOn(t, "a message", p, m, out, chosen...)
	}
}

func TestRandomScripts(t *testing.T) {
	phases := map[int]int{}
	for seed := range int64(600) {
		rng := rand.New(rand.NewSource(seed))
		nodes := 1 + rng.Intn(7)
		of := rng.Intn(nodes)
		p, plain := newProposer(t, of, nodes), newPlain(of, nodes)
		for range 120 {
			step(t, rng, p, plain)
			wantState(t, "as the plain one", p, plain.state())
			if t.Failed() {
				t.Fatalf("seed %d", seed)
			}
			phases[p.Phase()]++
			if rng.Intn(10) == 0 {
				other := p
				p = p.Fork()
				other.Start(round(20, 0), 3)
			}
		}
	}
	if phases[api.PhaseIdle] < 1000 || phases[api.PhasePreparing] < 1000 || phases[api.PhaseLeading] < 1000 {
		t.Error("too little was seen:", phases)
	}
}
