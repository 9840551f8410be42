package ballot

import "pannier/api"

// Votes is which of the nodes voted.
type Votes struct {
	nodes int
	voted [api.MaxNodes]bool
}

// NewVotes answers votes of that many nodes, of which none voted.
func NewVotes(nodes int) (*Votes, api.Errno) {
	if !mayCount(nodes) {
		return nil, api.ErrArg
	}
	return &Votes{nodes: nodes}, api.OK
}

// Add gives the node a vote, and answers whether there is such a node that had none.
func (v *Votes) Add(node int) bool {
	if !v.hasNode(node) {
		return false
	}
	before := v.voted
	v.voted[node] = true
	return v.voted != before
}

// Has asks whether the node voted.
func (v *Votes) Has(node int) bool {
	return v.hasNode(node) && v.voted[node]
}

// Count answers how many nodes voted.
func (v *Votes) Count() int {
	if v.closed() {
		return 0
	}
	count := 0
	for _, has := range v.voted {
		if has {
			count++
		}
	}
	return count
}

// Enough asks whether those who voted are a majority.
func (v *Votes) Enough() bool {
	return !v.closed() && v.Count() >= Quorum(v.nodes)
}

// All answers the nodes that voted, rising.
func (v *Votes) All() []int {
	if v.closed() {
		return nil
	}
	var all []int
	for node := range v.nodes {
		if v.voted[node] {
			all = append(all, node)
		}
	}
	return all
}

// Fork answers other votes that are the same.
func (v *Votes) Fork() *Votes {
	if v.closed() {
		return nil
	}
	other := *v
	return &other
}

// closed asks whether no NewVotes and no Fork made v.
func (v *Votes) closed() bool {
	return v == nil || v.nodes == 0
}

func (v *Votes) hasNode(node int) bool {
	return !v.closed() && 0 <= node && node < v.nodes
}
