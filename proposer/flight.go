package proposer

import (
	"maps"
	"slices"
	"strings"

	"pannier/api"
	"pannier/ballot"
)

// flight is a slot that was proposed: the ballot, the entry, and who voted.
type flight struct {
	slot   int
	ballot api.Ballot
	entry  api.Entry
	votes  *ballot.Votes
}

// fly proposes e, which p may keep, in the next slot.
func (p *Proposer) fly(e api.Entry) flight {
	f := flight{slot: p.next, ballot: p.ballot, entry: e, votes: p.noVotes()}
	p.flights[f.slot] = f
	p.next++
	return f
}

// rising answers the flights by rising slots.
func (p *Proposer) rising() []flight {
	var flights []flight
	for _, slot := range slices.Sorted(maps.Keys(p.flights)) {
		flights = append(flights, p.flights[slot])
	}
	return flights
}

// accept makes the message that asks for a vote.
func (f flight) accept() api.Msg {
	return api.Msg{Kind: api.MsgAccept, Ballot: f.ballot, Slot: f.slot, Entry: told(f.entry)}
}

func (f flight) told() api.Voted {
	return api.Voted{Slot: f.slot, Ballot: f.ballot, Entry: told(f.entry)}
}

// prepare makes the message that asks for a promise.
func (p *Proposer) prepare() api.Msg {
	return api.Msg{Kind: api.MsgPrepare, Ballot: p.ballot, Slot: p.next, Entry: api.Entry{Noop: true}}
}

// toRest answers what made makes, for each node that does not count among those who have answered. It is
// made anew for each, so that no two messages have a list together.
func (p *Proposer) toRest(answered func(node int) bool, made func() api.Msg) []api.Msg {
	var out []api.Msg
	for to := range p.nodes {
		if answered(to) {
			continue
		}
		m := made()
		m.From, m.To = p.node, to
		out = append(out, m)
	}
	return out
}

// noVotes answers votes that nobody has given. (New looked at how many nodes there are.)
func (p *Proposer) noVotes() *ballot.Votes {
	votes, _ := ballot.NewVotes(p.nodes)
	return votes
}

// told answers e with a list of its own.
func told(e api.Entry) api.Entry {
	e.Seal.Cut = append([]int(nil), e.Seal.Cut...)
	return e
}

// kept answers e with nothing of whoever told it: a name that is a piece of a longer text would keep all of that.
func kept(e api.Entry) api.Entry {
	e.Seal.Token, e.Seal.Cart = strings.Clone(e.Seal.Token), strings.Clone(e.Seal.Cart)
	return told(e)
}
