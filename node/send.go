package node

import (
	"slices"

	"pannier/api"
	"pannier/gossip"
)

// Flush makes all records sure; then all that was held back leaves, what is for others and for clients is
// answered, and what this node sent itself comes.
func (n *Node) Flush() ([]api.Out, api.Errno) {
	if n.closed() {
		return nil, api.ErrClosed
	}
	if err := n.store.Sync(); err != api.OK {
		return nil, err
	}
	leaving := n.held
	n.held = nil // what comes of this node's own messages waits for the next Flush
	var told []api.Out
	for _, out := range leaving {
		if !out.IsAnswer && out.Msg.To == n.id {
			n.On(out.Msg)
			continue
		}
		told = append(told, out)
	}
	return told, api.OK
}

// send holds a message back.
func (n *Node) send(m api.Msg) {
	n.held = append(n.held, api.Out{Msg: m})
}

// toOthers sends each other node what made makes for it.
func (n *Node) toOthers(made func(to int) api.Msg) {
	for to := range n.config.Nodes {
		if to != n.id {
			n.send(made(to))
		}
	}
}

// answer holds an answer to a call back.
func (n *Node) answer(c api.Call, a api.Answer) {
	a.Id, a.Applied, a.Learned = c.Id, n.replica.Applied(), n.learner.Prefix()
	n.held = append(n.held, api.Out{IsAnswer: true, Answer: a})
}

func (n *Node) refuse(c api.Call, err api.Errno) {
	n.answer(c, api.Answer{Err: err})
}

// digest makes a message that tells the node to what is applied and learned here.
func (n *Node) digest(to int) api.Msg {
	m := gossip.Digest(n.replica, to)
	m.Slot = n.learner.Prefix()
	return m
}

// chosen makes a message that tells the node to what was chosen, with a list of its own.
func (n *Node) chosen(to, slot int, e api.Entry) api.Msg {
	e.Seal.Cut = slices.Clone(e.Seal.Cut)
	return api.Msg{Kind: api.MsgChosen, From: n.id, To: to, Slot: slot, Entry: e}
}

func noop() api.Entry {
	return api.Entry{Noop: true}
}
