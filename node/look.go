package node

import (
	"slices"

	"pannier/api"
)

// Held answers how many messages and answers are held back.
func (n *Node) Held() int {
	if n.closed() {
		return 0
	}
	return len(n.held)
}

// Waits answers how many calls wait.
func (n *Node) Waits() int {
	if n.closed() {
		return 0
	}
	return len(n.calls)
}

// Applied answers of each origin how many events are applied.
func (n *Node) Applied() []int {
	if n.closed() {
		return nil
	}
	return n.replica.Applied()
}

// Events answers the applied events, by their dots.
func (n *Node) Events() []api.Event {
	if n.closed() {
		return nil
	}
	return slices.Collect(n.replica.All())
}

// Entries answers what is known to be chosen, up to the first gap.
func (n *Node) Entries() []api.Entry {
	if n.closed() {
		return nil
	}
	var entries []api.Entry
	for _, e := range n.learner.From(0) {
		entries = append(entries, e)
	}
	return entries
}

// Promised answers the greatest ballot that it promised.
func (n *Node) Promised() api.Ballot {
	if n.closed() {
		return api.Ballot{}
	}
	return n.acceptor.Promised()
}

// Votes answers the last votes of all slots, by rising slots.
func (n *Node) Votes() []api.Voted {
	if n.closed() {
		return nil
	}
	return n.acceptor.Votes()
}

// Phase answers what its proposer is at.
func (n *Node) Phase() int {
	if n.closed() {
		return api.PhaseIdle
	}
	return n.proposer.Phase()
}

// Read answers what is in that cart, and in no order.
func (n *Node) Read(cart string) []api.Line {
	if n.closed() {
		return nil
	}
	return n.replica.Read(cart)
}
