package node

import (
	"strings"

	"pannier/api"
)

// waiting is a checkout or a status that is not answered yet. A status waits for the Noop that was proposed in
// that slot, in that ballot.
type waiting struct {
	call   api.Call
	slot   int
	ballot api.Ballot
	chosen bool // the Noop, in that ballot
}

// wait keeps of the call what is needed yet. A name that is a piece of a longer text would keep all of that.
func (n *Node) wait(w waiting) {
	c := w.call
	w.call = api.Call{Id: c.Id, Kind: c.Kind, Cart: strings.Clone(c.Cart), Token: strings.Clone(c.Token)}
	n.calls = append(n.calls, w)
}

// crowded asks whether no more calls may wait.
func (n *Node) crowded() bool {
	return len(n.calls) >= api.MaxPending
}

// settle looks at all calls that wait: when more was carried out, or applied, or the node began or ceased to lead.
func (n *Node) settle() {
	n.sift(func(w waiting) bool {
		if w.call.Kind == api.CallStatus {
			return n.statusSettled(w)
		}
		return n.checkoutSettled(w)
	})
}

// sift leaves the calls waiting that are not settled.
func (n *Node) sift(settled func(w waiting) bool) {
	var still []waiting
	for _, w := range n.calls {
		if !settled(w) {
			still = append(still, w)
		}
	}
	n.calls = still
}

// checkoutSettled answers a checkout, if its token has an order that is here as a whole. One whose token has
// none is proposed again: the seal that was proposed may have been stale.
func (n *Node) checkoutSettled(w waiting) bool {
	a, known, whole := n.receipt(w.call.Token)
	if whole {
		n.answer(w.call, a)
	}
	if !known {
		n.propose(w.call)
	}
	return whole
}

// statusSettled answers a status, if its Noop was chosen and is carried out, or will not be chosen any more.
func (n *Node) statusSettled(w waiting) bool {
	switch {
	case w.chosen && w.slot < n.machine.Done():
		n.answer(w.call, n.known(w.call.Token))
	case !w.chosen && w.ballot != n.proposer.Ballot():
		n.refuse(w.call, api.ErrNone)
	default:
		return false
	}
	return true
}

// noteChosen notes what was chosen for the status that waits for it. Its slot may be carried out already, as
// another leader may have had the same chosen there.
func (n *Node) noteChosen(v api.Voted) {
	for i, w := range n.calls {
		if w.call.Kind == api.CallStatus && w.slot == v.Slot && w.ballot == v.Ballot {
			n.calls[i].chosen = true
		}
	}
	n.sift(func(w waiting) bool { return w.call.Kind == api.CallStatus && n.statusSettled(w) })
}
