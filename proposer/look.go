package proposer

import "pannier/api"

// Phase answers what it is at: api.PhaseIdle, api.PhasePreparing or api.PhaseLeading.
func (p *Proposer) Phase() int {
	if p.closed() {
		return api.PhaseIdle
	}
	return p.phase
}

// Ballot answers its ballot, an empty one, if it is idle.
func (p *Proposer) Ballot() api.Ballot {
	if p.closed() {
		return api.Ballot{}
	}
	return p.ballot
}

// Seen answers the greatest ballot that it ever used or was told of.
func (p *Proposer) Seen() api.Ballot {
	if p.closed() {
		return api.Ballot{}
	}
	return p.seen
}

// Next answers the slot behind the greatest one that it proposed in its ballot, 0, if it does not lead.
func (p *Proposer) Next() int {
	if p.closed() || p.phase != api.PhaseLeading {
		return 0
	}
	return p.next
}

// Flights answers what it proposed and is not chosen yet, by rising slots.
func (p *Proposer) Flights() []api.Voted {
	if p.closed() {
		return nil
	}
	var flights []api.Voted
	for _, f := range p.rising() {
		flights = append(flights, f.told())
	}
	return flights
}
