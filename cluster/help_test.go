package cluster_test

import (
	"fmt"
	"slices"
	"strings"
	"testing"

	"pannier/api"
	"pannier/cluster"
	"pannier/codec"
	"pannier/node"
	"pannier/router"
)

// config is that of so many nodes, with much room and leases of 100.
func config(nodes int) api.Config {
	return api.Config{Nodes: nodes, Lease: 100, Drift: 100, Segment: 1 << 12, Disk: 1 << 20}
}

func start(t *testing.T, c api.Config, shards int) *cluster.Cluster {
	t.Helper()
	all, err := cluster.New(c, shards)
	if all == nil || err != api.OK {
		t.Fatalf("New(%+v, %d): %v, %d", c, shards, all, err)
	}
	return all
}

// do does steps that are OK.
func do(t *testing.T, c *cluster.Cluster, steps ...api.Step) {
	t.Helper()
	for _, s := range steps {
		if err := c.Do(s); err != api.OK {
			t.Fatalf("Do(%+v): %d", s, err)
		}
	}
}

// wantRefused looks whether a step is refused with that error, is numbered, and changes nothing else.
func wantRefused(t *testing.T, what string, c *cluster.Cluster, s api.Step, wanted api.Errno) {
	t.Helper()
	steps, before := c.Steps(), picture(c)
	if err := c.Do(s); err != wanted {
		t.Errorf("%s: Do(%+v): %d, not %d", what, s, err, wanted)
	}
	if c.Steps() != steps+1 {
		t.Errorf("%s: behind %d steps and a refused one: %d", what, steps, c.Steps())
	}
	if after := picture(c); after != before {
		t.Errorf("%s: a refused step makes\n%s\nof\n%s", what, after, before)
	}
}

// at is a step of a node in the first shard.
func at(kind, id int) api.Step {
	return api.Step{Kind: kind, Node: id}
}

// in is the step in that shard.
func in(shard int, s api.Step) api.Step {
	s.Shard = shard
	return s
}

// packet is a step with the packet at that place in the first shard.
func packet(kind, place int) api.Step {
	return api.Step{Kind: kind, At: place}
}

func gossip(from, to int) api.Step {
	return api.Step{Kind: api.StepGossip, Node: from, At: to}
}

func stop(id, calls int) api.Step {
	return api.Step{Kind: api.StepStop, Node: id, At: calls}
}

func tick(time int, on ...int) api.Step {
	return api.Step{Kind: api.StepTick, Time: time, On: on}
}

func crash(id int, keep ...api.Torn) api.Step {
	return api.Step{Kind: api.StepCrash, Node: id, Keep: keep}
}

func call(id int, c api.Call) api.Step {
	return api.Step{Kind: api.StepCall, Node: id, Call: c}
}

func update(id int, cart, sku string, qty int) api.Call {
	return api.Call{Id: id, Kind: api.CallUpdate, Cart: cart, Sku: sku, Qty: qty}
}

func read(id int, cart string) api.Call {
	return api.Call{Id: id, Kind: api.CallRead, Cart: cart}
}

func checkout(id int, cart, token string) api.Call {
	return api.Call{Id: id, Kind: api.CallCheckout, Cart: cart, Token: token}
}

func status(id int, cart, token string) api.Call {
	return api.Call{Id: id, Kind: api.CallStatus, Cart: cart, Token: token}
}

func tea(qty int) []api.Line {
	return []api.Line{{Sku: "tea", Qty: qty}}
}

// cartIn is a cart of that shard.
func cartIn(shard, shards int) string {
	for i := 0; ; i++ {
		if cart := fmt.Sprint("cart", i); router.Shard(cart, shards) == shard {
			return cart
		}
	}
}

// flushAll flushes all nodes of a shard that are up.
func flushAll(t *testing.T, c *cluster.Cluster, shard int) {
	t.Helper()
	for id := range api.MaxNodes {
		if c.Up(shard, id) {
			do(t, c, in(shard, at(api.StepFlush, id)))
		}
	}
}

// settle has all that is sent in a shard come, until nothing is sent any more.
func settle(t *testing.T, c *cluster.Cluster, shard int) {
	t.Helper()
	for range 100 {
		flushAll(t, c, shard)
		if len(c.Packets(shard)) == 0 {
			return
		}
		for len(c.Packets(shard)) > 0 {
			do(t, c, in(shard, packet(api.StepDeliver, 0)))
		}
	}
	t.Fatal("it is never quiet")
}

// lead makes a node lead.
func lead(t *testing.T, c *cluster.Cluster, shard, id int) {
	t.Helper()
	do(t, c, in(shard, at(api.StepElect, id)))
	settle(t, c, shard)
	if c.Node(shard, id).Phase() != api.PhaseLeading {
		t.Fatalf("node %d of shard %d does not lead", id, shard)
	}
}

// message reads a packet's body.
func message(t *testing.T, p api.Packet) api.Msg {
	t.Helper()
	m, err := codec.ReadMsg([]byte(p.Body))
	if err != api.OK || m.From != p.From || m.To != p.To {
		t.Fatalf("%+v is %+v, %d", p, m, err)
	}
	return m
}

// kinds are those of the messages on their way in the first shard, in order.
func kinds(t *testing.T, c *cluster.Cluster) []int {
	t.Helper()
	var l []int
	for _, p := range c.Packets(0) {
		l = append(l, message(t, p).Kind)
	}
	return l
}

// same asks by texts, in which nil and the empty list are the same.
func same(a, b any) bool {
	return fmt.Sprintf("%+v", a) == fmt.Sprintf("%+v", b)
}

func wantSame(t *testing.T, what string, got, wanted any) {
	t.Helper()
	if !same(got, wanted) {
		t.Errorf("%s:\n   %+v\nnot\n   %+v", what, got, wanted)
	}
}

// equalEntries asks whether two entries are the same.
func equalEntries(a, b api.Entry) bool {
	x, y := a.Seal, b.Seal
	return a.Noop == b.Noop && x.Token == y.Token && x.Cart == y.Cart && x.Epoch == y.Epoch && slices.Equal(x.Cut, y.Cut)
}

// lastTold is the last answer, and at which step it was told.
func lastTold(t *testing.T, c *cluster.Cluster) api.Told {
	t.Helper()
	l := c.Told()
	if len(l) == 0 {
		t.Fatal("nothing was told")
	}
	return l[len(l)-1]
}

// state is all that a node tells.
func state(n *node.Node) string {
	var b strings.Builder
	fmt.Fprintf(&b, "held %d, waits %d, phase %d, applied %v\n", n.Held(), n.Waits(), n.Phase(), n.Applied())
	fmt.Fprintf(&b, "  events %+v\n  entries %+v\n  promised %v, votes %+v\n", n.Events(), n.Entries(), n.Promised(), n.Votes())
	return b.String()
}

// picture is all that a cluster tells, but how many steps were done.
func picture(c *cluster.Cluster) string {
	var b strings.Builder
	fmt.Fprintf(&b, "made %+v\ntold %+v\n", c.Made(), c.Told())
	for _, drift := range []int{0, 50, 100, 500, 999} {
		fmt.Fprint(&b, c.Keeps(drift), " ")
	}
	for shard := range api.MaxShards {
		fmt.Fprintf(&b, "\nshard %d: packets %+v\n", shard, c.Packets(shard))
		for id := range api.MaxNodes {
			if n := c.Node(shard, id); n != nil || c.Now(shard, id) > 0 {
				fmt.Fprintf(&b, "%d: up %v, now %d, %s", id, c.Up(shard, id), c.Now(shard, id), state(n))
			}
		}
	}
	return b.String()
}
