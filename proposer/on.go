package proposer

import (
	"pannier/api"
	"pannier/ballot"
	"pannier/codec"
)

// takes asks whether m may be, is by a node that there is, and for one that is not idle.
func (p *Proposer) takes(m api.Msg) bool {
	if p.closed() || p.phase == api.PhaseIdle || m.To != p.node || m.From >= p.nodes {
		return false
	}
	_, err := codec.Msg(m)
	return err == api.OK
}

func (p *Proposer) onPromise(m api.Msg) []api.Msg {
	if p.phase != api.PhasePreparing || m.Ballot != p.ballot || m.Slot != p.next || !p.promised.Add(m.From) {
		return nil
	}
	p.keep(m.Voted)
	if !p.promised.Enough() {
		return nil
	}
	return p.lead()
}

// keep keeps the votes that it must heed: those that are not below its own slot.
func (p *Proposer) keep(l []api.Voted) {
	for _, v := range l {
		if v.Slot >= p.next {
			v.Entry = kept(v.Entry)
			p.kept[v.Slot] = append(p.kept[v.Slot], v)
		}
	}
}

// lead proposes what may be chosen already, and Noops in the gaps between; but it is idle, if that is too much.
func (p *Proposer) lead() []api.Msg {
	end := p.next
	for slot := range p.kept {
		end = max(end, slot+1)
	}
	if end-p.next > api.MaxList {
		p.Stop()
		return nil
	}
	p.phase = api.PhaseLeading
	for p.next < end {
		e, _ := ballot.Pick(p.kept[p.next], p.next)
		p.fly(e)
	}
	clear(p.kept)
	p.promised = nil
	return p.Again()
}

// onAccepted needs no look at the phase: one that does not lead has no flights.
func (p *Proposer) onAccepted(m api.Msg) []api.Voted {
	f, is := p.flights[m.Slot]
	if !is || m.Ballot != p.ballot || !f.votes.Add(m.From) || !f.votes.Enough() {
		return nil
	}
	delete(p.flights, m.Slot)
	return []api.Voted{f.told()}
}

func (p *Proposer) onNack(m api.Msg) {
	if ballot.Compare(m.Ballot, p.ballot) <= 0 {
		return
	}
	p.Stop()
	p.seen = m.Ballot
}
