package node

import (
	"pannier/api"
	"pannier/ballot"
)

// Elect has the node ask for promises, in a ballot of its own that it promised itself ahead. A ballot that it
// could not remember it might use again behind a crash, so it asks nobody then.
func (n *Node) Elect() {
	if n.closed() {
		return
	}
	n.step(func() {
		messages, err := n.proposer.Start(n.acceptor.Promised(), n.learner.Prefix())
		if err != api.OK {
			return
		}
		n.lease.Clear()
		if !n.askItself(messages) {
			n.proposer.Stop()
			return
		}
		n.askOthers(messages)
	})
}

// Renew asks all nodes for a lease, if this one leads.
func (n *Node) Renew() {
	if !n.leads() {
		return
	}
	for to := range n.config.Nodes {
		m := api.Msg{Kind: api.MsgLease, From: n.id, To: to, Ballot: n.proposer.Ballot(), Entry: noop(), Time: n.now}
		if to == n.id {
			n.giveLease(m)
			continue
		}
		n.send(m)
	}
}

// Gossip sends another node a digest.
func (n *Node) Gossip(to int) {
	if n.closed() || to < 0 || to >= n.config.Nodes || to == n.id {
		return
	}
	n.send(n.digest(to))
}

// Again asks once more for what the proposer waits for.
func (n *Node) Again() {
	if n.closed() {
		return
	}
	n.step(func() { n.ask(n.proposer.Again()) })
}

// ask sends what the proposer asks for. Where this node's hold kept away its own ballot it leads without having
// promised that one, till its first vote in it; if that cannot be given, nobody else may be asked for one
// either: behind a crash this node might use the ballot again, for other entries.
func (n *Node) ask(messages []api.Msg) {
	n.askItself(messages)
	if len(messages) > 0 && n.leads() && ballot.Compare(n.acceptor.Promised(), n.proposer.Ballot()) < 0 {
		n.proposer.Stop()
		return
	}
	n.askOthers(messages)
}

// askItself does at once what this node is asked for, and answers whether all that could be recorded.
func (n *Node) askItself(messages []api.Msg) bool {
	all := true
	for _, m := range messages {
		if m.To == n.id && !n.vote(m) {
			all = false
		}
	}
	return all
}

func (n *Node) askOthers(messages []api.Msg) {
	for _, m := range messages {
		if m.To != n.id {
			n.send(m)
		}
	}
}

// step does something by which the node may begin to lead, or lead no more: then calls that wait are looked at.
func (n *Node) step(do func()) {
	led := n.leads()
	do()
	if n.leads() != led {
		n.settle()
	}
}

func (n *Node) leads() bool {
	return !n.closed() && n.proposer.Phase() == api.PhaseLeading
}
