package node

import (
	"slices"

	"pannier/api"
	"pannier/codec"
	"pannier/gossip"
	"pannier/oplog"
	"pannier/vv"
)

// On takes a message for this node.
func (n *Node) On(m api.Msg) {
	if n.closed() || m.To != n.id {
		return
	}
	if _, err := codec.Msg(m); err != api.OK {
		return
	}
	n.step(func() { n.on(m) })
}

func (n *Node) on(m api.Msg) {
	switch m.Kind {
	case api.MsgPrepare, api.MsgAccept:
		n.vote(m)
	case api.MsgPromise, api.MsgAccepted, api.MsgNack:
		n.count(m)
	case api.MsgChosen:
		n.learn(m.Slot, m.Entry)
	case api.MsgDigest:
		n.answerDigest(m)
	case api.MsgDelta:
		n.takeEvents(m.Events)
	case api.MsgLease:
		n.giveLease(m)
	case api.MsgLeased:
		n.grantLease(m)
	}
}

// vote has the acceptor answer, and is false, if what it would remember cannot be recorded: then it does not.
func (n *Node) vote(m api.Msg) bool {
	if m.Kind == api.MsgPrepare && n.hold.Blocks(m.Ballot, n.now) {
		return true
	}
	rec, is := n.acceptor.Would(m)
	if !is {
		return true
	}
	if rec != "" && n.record(voteLetter, rec) != api.OK {
		return false
	}
	answer, _, _ := n.acceptor.On(m)
	n.send(answer)
	return true
}

// count has the proposer take an acceptor's answer.
func (n *Node) count(m api.Msg) {
	led := n.leads()
	messages, chosen := n.proposer.On(m)
	if !led && n.leads() {
		n.fresh = n.proposer.Next()
	}
	n.ask(messages)
	for _, v := range chosen {
		n.choose(v)
	}
}

// choose learns what was chosen, and tells the others. What could not be learned the others may know, and tell:
// till this node knows it too, its lease is not enough to answer by.
func (n *Node) choose(v api.Voted) {
	n.noteChosen(v)
	n.learn(v.Slot, v.Entry)
	if _, has := n.learner.Get(v.Slot); !has {
		n.fresh = max(n.fresh, v.Slot+1)
	}
	n.toOthers(func(to int) api.Msg { return n.chosen(to, v.Slot, v.Entry) })
}

// learn takes what was chosen in a slot, if the learner would, and it can be recorded.
func (n *Node) learn(slot int, e api.Entry) {
	if _, has := n.learner.Get(slot); has || n.learner.Len() >= api.MaxDots {
		return
	}
	if n.record(chosenLetter, n.chosenBody(slot, e)) != api.OK {
		return
	}
	_ = n.learner.Choose(slot, e)
	if n.carryOut() {
		n.settle()
	}
}

// answerDigest sends another node a piece of what it misses, and asks for what this one misses: events, and entries.
func (n *Node) answerDigest(m api.Msg) {
	if m.From == n.id {
		return
	}
	asked := false
	for _, out := range gossip.Answer(n.replica, m) {
		if out.Kind == api.MsgDigest {
			out = n.digest(m.From)
			asked = true
		}
		n.send(out)
	}
	n.helpOn(m)
	for slot, e := range n.learner.From(m.Slot) {
		if slot >= m.Slot+api.Batch {
			break
		}
		n.send(n.chosen(m.From, slot, e))
	}
	if m.Slot > n.learner.Prefix() && !asked {
		n.send(n.digest(m.From))
	}
}

// helpOn sends a further piece, if another node can apply nothing of what gossip answers it: that goes by
// origins, so that all of it may wait for what is behind it, and would be sent again and again. What this piece
// begins with, that node can apply.
func (n *Node) helpOn(m api.Msg) {
	ready := func(e api.Event) bool { return vv.Below(e.Deps, m.Seen) }
	if slices.ContainsFunc(n.replica.After(m.Seen, api.Batch), ready) {
		return
	}
	if l := n.inTurn(m.Seen, api.Batch); len(l) > 0 {
		n.send(api.Msg{Kind: api.MsgDelta, From: n.id, To: m.From, Entry: noop(), Events: l})
	}
}

// takeEvents takes the others' events that are not known yet, as far as they can be recorded.
func (n *Node) takeEvents(l []api.Event) {
	applied := false
	for _, e := range l {
		if !oplog.May(e) || e.Dot.Origin == n.id || n.knows(e.Dot) {
			continue
		}
		if n.record(eventLetter, eventBody(e)) == api.OK && n.put(e) {
			applied = true
		}
	}
	if applied {
		n.settle()
	}
}

// giveLease keeps other ballots away for a while, if the one that asks is just what was promised.
func (n *Node) giveLease(m api.Msg) {
	if n.acceptor.Promised() != m.Ballot || !n.hold.Give(m.Ballot, n.now) {
		return
	}
	n.send(api.Msg{Kind: api.MsgLeased, From: n.id, To: m.From, Ballot: m.Ballot, Entry: noop(), Time: m.Time})
}

// grantLease notes who keeps others away from the ballot in which this node leads.
func (n *Node) grantLease(m api.Msg) {
	if n.leads() && n.proposer.Ballot() == m.Ballot {
		n.lease.Grant(m.From, m.Time)
	}
}
