package cluster_test

import (
	"fmt"
	"math/rand"
	"slices"
	"testing"

	"pannier/api"
)

// leaders are the nodes of the first shard that lead, or believe so.
func (p *play) leaders() []int {
	var l []int
	for id := range p.config.Nodes {
		if p.c.Node(0, id).Phase() == api.PhaseLeading {
			l = append(l, id)
		}
	}
	return l
}

// between has a packet come, or be lost, that is neither from nor to the node that is cut off.
func (p *play) between(cut int) {
	var places []int
	l := p.c.Packets(0)
	for place, x := range l {
		if x.From != cut && x.To != cut {
			places = append(places, place)
		}
	}
	if len(places) == 0 {
		return
	}
	place := places[p.rng.Intn(len(places))]
	if p.rng.Intn(100) < p.loss {
		p.must(packet(api.StepLose, place))
		return
	}
	p.must(packet(api.StepDeliver, place))
	p.look(0, l[place].To)
}

// tickApart has one clock go on as little as the drift lets it, and the others as much.
func (p *play) tickApart(time int) {
	var on []int
	for id := range p.config.Nodes {
		if id == int(p.seed)%p.config.Nodes {
			on = append(on, (time*(1000-p.config.Drift)+999)/1000)
		} else {
			on = append(on, time*(1000+p.config.Drift)/1000)
		}
	}
	p.must(tick(time, on...))
}

// askLeaders has a client check out, or ask for an order that was made, or is being made, of late.
func (p *play) askLeaders(tokens *int) {
	for _, id := range p.leaders() {
		switch p.rng.Intn(4) {
		case 0:
			*tokens++
			p.call(id, checkout(0, "c", fmt.Sprint("l", *tokens)))
		case 1, 2:
			p.call(id, status(0, "c", fmt.Sprint("l", *tokens-p.rng.Intn(3))))
		}
	}
}

// cutOff does a step while a node is cut off.
func (p *play) cutOff(cut int, tokens *int) {
	id := p.rng.Intn(p.config.Nodes)
	if !p.c.Up(0, id) {
		p.must(at(api.StepRestart, id))
		return
	}
	switch x := p.rng.Intn(100); {
	case x < 70:
		for range 1 + p.rng.Intn(8) {
			p.between(cut)
		}
		for id := range p.config.Nodes {
			p.do(at(api.StepFlush, id))
		}
	case x < 75:
		p.tickApart(1 + p.rng.Intn(max(1, p.config.Lease/3)))
	case x < 81:
		// Where all ask all the time, nobody leads.
		if l := p.leaders(); id != cut && !slices.ContainsFunc(l, func(id int) bool { return id != cut }) {
			p.must(at(api.StepElect, id))
		}
	case x < 86:
		if l := p.leaders(); len(l) > 0 {
			p.must(at(api.StepRenew, l[p.rng.Intn(len(l))]))
		}
	case x < 96:
		p.askLeaders(tokens)
	case x < 98:
		p.must(at(api.StepAgain, id))
	case x < 99 && id != cut && p.rng.Intn(4) == 0:
		p.crash(0, id)
	}
}

// crashOthers has all nodes but one forget what they granted, and be up again at once.
func (p *play) crashOthers(cut int) {
	for id := range p.config.Nodes {
		if id != cut && p.c.Up(0, id) {
			p.crash(0, id)
			p.must(at(api.StepRestart, id))
		}
	}
}

// leaseScript has one node after the other be cut off, often one that leads.
func (p *play) leaseScript(rounds int) {
	tokens := 2
	for range rounds {
		cut := -1
		if l := p.leaders(); len(l) > 0 && p.rng.Intn(4) > 0 {
			cut = l[p.rng.Intn(len(l))]
		}
		if p.rng.Intn(4) == 0 {
			p.crashOthers(cut)
		}
		for range 20 + p.rng.Intn(100) {
			p.cutOff(cut, &tokens)
		}
	}
}

// TestLeaseScripts: a leader that is cut off tells no more from its lease when others may have told more.
func TestLeaseScripts(t *testing.T) {
	t.Parallel()
	var s sums
	for seed := range 3 * scripts() {
		rng := rand.New(rand.NewSource(seed))
		p := newPlay(t, seed, api.Config{Nodes: 2 + rng.Intn(4), Lease: 10 + rng.Intn(100), Drift: rng.Intn(4) * 150, Segment: 1 << 12, Disk: 1 << 20}, 1)
		p.loss = int(seed%3) * 15
		p.leaseScript(15)
		p.finish()
		s.take(p)
	}
	t.Logf("%+v", s)
	if least := 3 * int(scripts()); s.orders < least || s.known < least || s.unknown < least || s.lease < least || s.crashes < least {
		t.Errorf("too little happened: %+v", s)
	}
}
