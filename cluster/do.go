package cluster

import (
	"pannier/api"
	"pannier/node"
	"pannier/router"
)

// kind is where steps of a kind happen, and what they do there.
type kind struct {
	find func(s api.Step) (spot, api.Errno)
	do   func(at spot, s api.Step) api.Errno
}

// spot is a shard and, unless the whole of it is meant, one of its nodes.
type spot struct {
	*shard
	id int
}

// node answers the spot's node, nil, if it is down.
func (p spot) node() *node.Node {
	return p.nodes[p.id]
}

// Do does one step.
func (c *Cluster) Do(s api.Step) api.Errno {
	if c.closed() {
		return api.ErrClosed
	}
	c.steps++
	k, is := c.kinds()[s.Kind]
	if !is {
		return api.ErrArg
	}
	at, err := k.find(s)
	if err != api.OK {
		return err
	}
	return k.do(at, s)
}

// kinds answers what is made of each kind of steps.
func (c *Cluster) kinds() map[int]kind {
	return map[int]kind{
		api.StepCall:    {c.nodeOfCart, c.call},
		api.StepDeliver: {c.wholeShard, withPacket(deliver)},
		api.StepLose:    {c.wholeShard, withPacket(lose)},
		api.StepTwice:   {c.wholeShard, withPacket(double)},
		api.StepCrash:   {c.upNode, crash},
		api.StepRestart: {c.anyNode, c.restart},
		api.StepTick:    {c.wholeShard, tick},
		api.StepElect:   {c.upNode, withNode(func(n *node.Node, _ api.Step) { n.Elect() })},
		api.StepRenew:   {c.upNode, withNode(func(n *node.Node, _ api.Step) { n.Renew() })},
		api.StepGossip:  {c.upNode, withNode(func(n *node.Node, s api.Step) { n.Gossip(s.At) })},
		api.StepFlush:   {c.upNode, c.flush},
		api.StepAgain:   {c.upNode, withNode(func(n *node.Node, _ api.Step) { n.Again() })},
		api.StepCompact: {c.upNode, compact},
		api.StepStop:    {c.upNode, stop},
	}
}

// wholeShard answers the step's shard.
func (c *Cluster) wholeShard(s api.Step) (spot, api.Errno) {
	if !c.hasShard(s.Shard) {
		return spot{}, api.ErrArg
	}
	return spot{shard: c.shards[s.Shard]}, api.OK
}

// anyNode answers the step's node, whether it is up or not.
func (c *Cluster) anyNode(s api.Step) (spot, api.Errno) {
	if !c.hasNode(s.Shard, s.Node) {
		return spot{}, api.ErrArg
	}
	return spot{shard: c.shards[s.Shard], id: s.Node}, api.OK
}

// upNode answers the step's node, which must be up.
func (c *Cluster) upNode(s api.Step) (spot, api.Errno) {
	at, err := c.anyNode(s)
	if err != api.OK {
		return spot{}, err
	}
	if at.node() == nil {
		return spot{}, api.ErrDown
	}
	return at, api.OK
}

// nodeOfCart answers the step's node in the shard of its call's cart; the step's own shard says nothing.
func (c *Cluster) nodeOfCart(s api.Step) (spot, api.Errno) {
	s.Shard = router.Shard(s.Call.Cart, len(c.shards))
	return c.upNode(s)
}
