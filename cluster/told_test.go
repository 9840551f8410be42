package cluster_test

import (
	"slices"

	"pannier/api"
	"pannier/cut"
	"pannier/vv"
)

// flushed looks at all that a node told by a Flush. Whatever it has is sure then.
func (p *play) flushed(shard, id int) {
	for _, e := range p.c.Node(shard, id).Events() {
		if err := p.models[shard].Event(e); err != api.OK && err != api.ErrTwice {
			p.fail("%+v: %d", e, err)
		}
	}
	p.look(shard, id)
	l := p.c.Told()
	for _, x := range l[p.told:] {
		if x.Step != p.c.Steps() || x.Shard != shard || x.Node != id {
			p.fail("told: %+v", x)
		}
		p.answered(x)
	}
	p.told = len(l)
}

func (p *play) answered(x api.Told) {
	m, is := p.calls[x.Answer.Id]
	if !is || m.told != nil || m.Node != x.Node || m.Shard != x.Shard {
		p.fail("told: %+v", x)
	}
	m.told = &x
	a, all := x.Answer, p.models[x.Shard]
	for all.Entries() < a.Learned {
		e, is := p.logs[x.Shard][all.Entries()]
		if !is {
			p.fail("nobody learned what %+v was told by", a)
		}
		all.Entry(e)
	}
	p.sums.add(m)
	if a.Err != api.OK {
		if a.Dot != (api.Dot{}) || a.Lines != nil || a.Known || a.Order.Id != 0 {
			p.fail("beside an error: %+v", a)
		}
		return
	}
	switch m.Call.Kind {
	case api.CallUpdate:
		if a.Dot.Origin != x.Node || !vv.Has(a.Applied, a.Dot) {
			p.fail("an update: %+v", x)
		}
		p.had[[2]int{x.Shard, x.Node}][a.Dot] = m.Call.Cart
	case api.CallRead:
		p.wantRead(m, a)
	case api.CallCheckout:
		o, known := all.Token(m.Call.Token, a.Learned)
		if !known || !a.Known || !same(o, a.Order) || !vv.Below(o.Cut, a.Applied) {
			p.fail("a checkout: %+v, not %+v, %v", a, o, known)
		}
		p.wantReceipt(x)
	case api.CallStatus:
		o, known := all.Token(m.Call.Token, a.Learned)
		if known != a.Known || !same(o, a.Order) || a.Lines != nil {
			p.fail("a status: %+v, not %+v, %v", a, o, known)
		}
	}
}

// wantRead looks whether a read is the model's, of what is closed, and has what was told ahead of it.
func (p *play) wantRead(m *asked, a api.Answer) {
	all := p.models[m.Shard]
	if lines := all.Cart(m.Call.Cart, a.Applied, a.Learned); !same(lines, a.Lines) {
		p.fail("a read of %s: %+v, not %v", m.Call.Cart, a, lines)
	}
	count := 0
	for _, e := range all.Events() {
		if !vv.Has(a.Applied, e.Dot) {
			continue
		}
		count++
		if !vv.Below(e.Deps, a.Applied) {
			p.fail("applied is %v, without what %+v had seen", a.Applied, e)
		}
	}
	for _, n := range a.Applied {
		count -= n
	}
	if count != 0 {
		p.fail("applied is %v, and %d events are not there", a.Applied, -count)
	}
	for _, d := range m.had {
		if !vv.Has(a.Applied, d) {
			p.fail("a read without %v, which was told", d)
		}
	}
}

// wantReceipt looks whether an order has just the lines that all updates make.
func (p *play) wantReceipt(x api.Told) {
	if lines, is := p.models[x.Shard].Receipt(x.Answer.Order.Id); !is || !same(lines, x.Answer.Lines) {
		p.fail("the lines of %+v: %v, not %v", x.Answer.Order, x.Answer.Lines, lines)
	}
}

// finish looks at all that was told.
func (p *play) finish() {
	for shard := range p.shards {
		p.wantOrders(shard)
		p.wantRow(shard)
	}
}

// wantOrders looks whether there is one order of a token, whether seals follow, and whether orders have what
// was told at a node ahead of a checkout there.
func (p *play) wantOrders(shard int) {
	seals := p.machine(shard).Seals()
	if at, err := cut.Check(seals); err != api.OK {
		p.fail("seal %d does not follow", at)
	}
	epochs := map[string]int{}
	for i, s := range seals {
		if s.Epoch != epochs[s.Cart] {
			p.fail("seal %d of %s has the epoch %d, not %d", i, s.Cart, s.Epoch, epochs[s.Cart])
		}
		epochs[s.Cart]++
	}
	events := map[api.Dot]api.Event{}
	for _, e := range p.models[shard].Events() {
		events[e.Dot] = e
	}
	orders := map[string]api.Order{}
	for _, m := range p.calls {
		if m.Shard != shard || m.told == nil || !m.told.Answer.Known || m.Call.Kind != api.CallCheckout {
			continue
		}
		o := m.told.Answer.Order
		if before, is := orders[o.Token]; is && !same(before, o) || o.Token != m.Call.Token {
			p.fail("%+v was told %+v, others %+v", m.Call, o, before)
		}
		orders[o.Token] = o
		p.wantReceipt(*m.told)
		if !p.hasTold(o, shard, func(d api.Dot) bool {
			epoch, is := cut.Belongs(events[d], seals)
			return is && epoch <= o.Epoch
		}) {
			p.fail("order %+v lacks what was told", o)
		}
	}
}

// hasTold asks whether of at least one checkout with an order's token all updates are in it that were told
// there ahead of that.
func (p *play) hasTold(o api.Order, shard int, in func(d api.Dot) bool) bool {
	for _, m := range p.calls {
		if m.Shard == shard && m.Call.Kind == api.CallCheckout && m.Call.Token == o.Token && m.Call.Cart == o.Cart {
			if !slices.ContainsFunc(m.had, func(d api.Dot) bool { return !in(d) }) {
				return true
			}
		}
	}
	return false
}

// wantRow looks whether checkouts and statuses, as they were told, can be put in one row (25): those from a
// lease, if clocks kept the drift.
func (p *play) wantRow(shard int) {
	keeps := p.c.Keeps(p.config.Drift)
	orders := p.machine(shard).Orders()
	first, last := make([]int, len(orders)), make([]int, len(orders))
	for i, o := range orders {
		first[i], last[i] = api.MaxTime, api.MaxTime
		for _, m := range p.calls {
			if m.Shard == shard && m.Call.Token == o.Token && m.Call.Kind == api.CallCheckout {
				first[i] = min(first[i], m.Step)
			}
		}
		for _, m := range p.calls {
			if m.Shard != shard || m.Call.Token != o.Token || m.Call.Kind < api.CallCheckout || m.told == nil || m.told.Answer.Err != api.OK || m.lease && !keeps {
				continue
			}
			switch a := m.told.Answer; {
			case !a.Known:
				first[i] = max(first[i], m.Step)
			case a.Order.Id != o.Id:
				p.fail("%+v was told %+v", m.Call, a)
			default:
				last[i] = min(last[i], m.told.Step)
			}
		}
	}
	for i := range orders {
		for j := i; j < len(orders); j++ {
			if first[i] > last[j] {
				p.fail("order %d comes behind step %d, order %d ahead of step %d", i+1, first[i], j+1, last[j])
			}
		}
	}
}

// wantSums looks whether orders and carts, of updates that clear nothing, have together all that was added.
func (p *play) wantSums(shard int) {
	m := p.models[shard]
	sum := map[string]int{}
	for _, e := range m.Events() {
		sum[e.Cart+" "+e.Sku] += e.Qty
	}
	take := func(cart string, l []api.Line) {
		for _, line := range l {
			sum[cart+" "+line.Sku] -= line.Qty
		}
	}
	for _, o := range p.machine(shard).Orders() {
		lines, _ := m.Receipt(o.Id)
		take(o.Cart, lines)
	}
	for _, cart := range []string{"c", "d", "e", "f"} {
		take(cart, p.c.Node(shard, 0).Read(cart))
	}
	for what, n := range sum {
		if n != 0 {
			p.fail("of %s %d are in no order and in no cart", what, n)
		}
	}
}
