package cluster

import (
	"slices"
	"strings"

	"pannier/api"
	"pannier/node"
)

// Steps answers how many steps were done, those too that were refused.
func (c *Cluster) Steps() int {
	if c.closed() {
		return 0
	}
	return c.steps
}

// Made answers the calls that were taken, in order.
func (c *Cluster) Made() []api.Made {
	if c.closed() {
		return nil
	}
	return append([]api.Made(nil), c.made...)
}

// Told answers what clients were told, in order.
func (c *Cluster) Told() []api.Told {
	if c.closed() {
		return nil
	}
	told := make([]api.Told, len(c.told))
	for i, t := range c.told {
		t.Answer = copied(t.Answer)
		told[i] = t
	}
	return told
}

// Up asks whether there is such a node, and it is up.
func (c *Cluster) Up(shard, id int) bool {
	return c.Node(shard, id) != nil
}

// Node answers that node, nil, if it is not up.
func (c *Cluster) Node(shard, id int) *node.Node {
	if !c.hasNode(shard, id) {
		return nil
	}
	return c.shards[shard].nodes[id]
}

// Packets answers the packets that are on their way in a shard.
func (c *Cluster) Packets(shard int) []api.Packet {
	if !c.hasShard(shard) {
		return nil
	}
	return c.shards[shard].net.All()
}

// Now answers what that node's clock shows, which goes on while the node is down.
func (c *Cluster) Now(shard, id int) int {
	if !c.hasNode(shard, id) {
		return 0
	}
	return c.shards[shard].clocks.Now(id)
}

// Keeps asks whether the clocks of all shards kept that drift.
func (c *Cluster) Keeps(drift int) bool {
	if c.closed() {
		return false
	}
	return !slices.ContainsFunc(c.shards, func(s *shard) bool { return !s.clocks.Keeps(drift) })
}

// kept answers a call with nothing of whoever made it: a name that is a piece of a longer text would keep all
// of that.
func kept(c api.Call) api.Call {
	c.Cart, c.Sku, c.Token = strings.Clone(c.Cart), strings.Clone(c.Sku), strings.Clone(c.Token)
	return c
}

// copied answers a with lists of its own.
func copied(a api.Answer) api.Answer {
	a.Lines, a.Applied, a.Order.Cut = slices.Clone(a.Lines), slices.Clone(a.Applied), slices.Clone(a.Order.Cut)
	return a
}
