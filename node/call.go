package node

import (
	"pannier/api"
	"pannier/codec"
	"pannier/vv"
)

// Call takes a client's call; the answer is held back, as all that is told.
func (n *Node) Call(c api.Call) api.Errno {
	if n.closed() {
		return api.ErrClosed
	}
	if !mayCall(c) {
		return api.ErrCall
	}
	n.step(func() { n.take(c) })
	return api.OK
}

func mayCall(c api.Call) bool {
	if !codec.Name(c.Cart) {
		return false
	}
	switch c.Kind {
	case api.CallUpdate:
		return codec.Name(c.Sku) && 0 <= c.Qty && c.Qty <= api.MaxQty
	case api.CallRead:
		return true
	case api.CallCheckout, api.CallStatus:
		return codec.Name(c.Token)
	}
	return false
}

func (n *Node) take(c api.Call) {
	switch c.Kind {
	case api.CallUpdate:
		n.update(c)
	case api.CallRead:
		n.answer(c, api.Answer{Lines: n.replica.Read(c.Cart)})
	case api.CallCheckout:
		n.checkout(c)
	case api.CallStatus:
		n.status(c)
	}
}

func (n *Node) update(c api.Call) {
	e, err := n.newEvent(c)
	if err == api.OK {
		err = n.record(eventLetter, eventBody(e))
	}
	if err != api.OK {
		n.refuse(c, err)
		return
	}
	n.put(e)
	n.answer(c, api.Answer{Dot: e.Dot})
	n.settle()
}

// newEvent answers the event that the replica's Update would make. It must be recorded ahead of being made.
func (n *Node) newEvent(c api.Call) (api.Event, api.Errno) {
	applied := n.replica.Applied()
	if vv.Count(applied) >= api.MaxDots {
		return api.Event{}, api.ErrFull
	}
	dot := api.Dot{Origin: n.id, Seq: vv.Of(applied, n.id) + 1}
	if n.knows(dot) {
		return api.Event{}, api.ErrTwice // an own event waits only if the records are not this node's
	}
	return api.Event{Dot: dot, Deps: applied, Cart: c.Cart, Epoch: n.replica.Epoch(c.Cart), Sku: c.Sku, Qty: c.Qty, Clears: c.Clears}, api.OK
}

// knows asks whether the event of that dot is applied, or waits.
func (n *Node) knows(d api.Dot) bool {
	_, waits := n.early[d]
	return waits || vv.Has(n.replica.Applied(), d)
}

func (n *Node) checkout(c api.Call) {
	a, known, whole := n.receipt(c.Token)
	switch {
	case whole:
		n.answer(c, a)
	case !known && !n.leads():
		n.refuse(c, api.ErrNone)
	case n.crowded():
		n.refuse(c, api.ErrFull)
	case known:
		n.wait(waiting{call: c})
		n.toOthers(n.digest)
	default:
		n.wait(waiting{call: c})
		n.propose(c)
	}
}

// receipt answers what a checkout of that token is told, whether the token has an order, and whether all of that is here.
func (n *Node) receipt(token string) (a api.Answer, known, whole bool) {
	o, known := n.machine.Token(token)
	if !known || !vv.Below(o.Cut, n.replica.Applied()) {
		return api.Answer{}, known, false
	}
	lines, whole := n.replica.Order(o.Cart, o.Epoch)
	return api.Answer{Order: o, Lines: lines, Known: true}, true, whole
}

// propose proposes a seal for a checkout, if the node leads and no flight has its token. One that the proposer
// refuses goes on waiting, as all whose token has no order.
func (n *Node) propose(c api.Call) {
	if !n.leads() || n.flies(c.Token) {
		return
	}
	s := api.Seal{Token: c.Token, Cart: c.Cart, Epoch: n.machine.Epoch(c.Cart), Cut: n.replica.Applied()}
	if messages, _, err := n.proposer.Propose(api.Entry{Seal: s}); err == api.OK {
		n.ask(messages)
	}
}

// flies asks whether a flight has that token.
func (n *Node) flies(token string) bool {
	for _, f := range n.proposer.Flights() {
		if f.Entry.Seal.Token == token {
			return true
		}
	}
	return false
}

func (n *Node) status(c api.Call) {
	switch {
	case !n.leads():
		n.refuse(c, api.ErrNone)
	case n.lease.Counts(n.now) && n.learner.Prefix() >= n.fresh:
		n.answer(c, n.known(c.Token))
	case n.crowded():
		n.refuse(c, api.ErrFull)
	default:
		n.statusByLog(c)
	}
}

// known is what a status of that token is told.
func (n *Node) known(token string) api.Answer {
	o, is := n.machine.Token(token)
	return api.Answer{Order: o, Known: is}
}

// statusByLog has a status wait for a Noop: when that is chosen, all is known that was chosen ahead of the call.
func (n *Node) statusByLog(c api.Call) {
	messages, slot, err := n.proposer.Propose(noop())
	if err != api.OK {
		n.refuse(c, err)
		return
	}
	n.wait(waiting{call: c, slot: slot, ballot: n.proposer.Ballot()})
	n.ask(messages)
}
