package cluster_test

import (
	"math"
	"testing"

	"pannier/api"
	"pannier/cluster"
)

// three answers a cluster with three digests on their way, from 0 to 1, to 2, to 1; their Slots are 0, and
// they are told apart by their Ids.
func three(t *testing.T) *cluster.Cluster {
	t.Helper()
	c := start(t, config(3), 2)
	do(t, c, gossip(0, 1), gossip(0, 2), gossip(0, 1), at(api.StepFlush, 0))
	wantIds(t, "at first", c, 1, 2, 3)
	return c
}

// wantIds looks which packets are on their way in the first shard.
func wantIds(t *testing.T, what string, c *cluster.Cluster, wanted ...int) {
	t.Helper()
	var ids []int
	for _, p := range c.Packets(0) {
		ids = append(ids, p.Id)
	}
	wantSame(t, what, ids, wanted)
}

func TestPlaces(t *testing.T) {
	for place, wanted := range map[int][]int{0: {2, 3}, 1: {1, 3}, 2: {1, 2}, 3: {2, 3}, 4: {1, 3}, 3002: {1, 2}, -1: {1, 2}, -2: {1, 3}, -3: {2, 3}, -4: {1, 2}, math.MaxInt: {1, 3}, math.MinInt: {1, 3}} {
		for _, kind := range []int{api.StepDeliver, api.StepLose} {
			c := three(t)
			do(t, c, packet(kind, place))
			wantIds(t, "taken", c, wanted...)
		}
		c := three(t)
		do(t, c, packet(api.StepTwice, place))
		wantIds(t, "twice", c, 1, 2, 3, 4)
		l := c.Packets(0)
		of := l[(place%3+3)%3]
		wantSame(t, "which one", l[3], api.Packet{Id: 4, From: of.From, To: of.To, Body: of.Body})
	}
}

// TestNoPacket: the last one, and one behind it.
func TestNoPacket(t *testing.T) {
	for _, kind := range ofPackets() {
		c := start(t, config(2), 2)
		wantRefused(t, "at first", c, packet(kind, 0), api.ErrNone)
		do(t, c, gossip(0, 1), at(api.StepFlush, 0))
		wantRefused(t, "of another shard", c, in(1, packet(kind, 0)), api.ErrNone)
		do(t, c, packet(kind, 0))
		if kind == api.StepTwice {
			do(t, c, packet(api.StepLose, 1), packet(api.StepLose, 0))
		}
		for _, place := range []int{0, 1, -1, math.MaxInt, math.MinInt} {
			wantRefused(t, "behind the last one", c, packet(kind, place), api.ErrNone)
		}
	}
}

// TestDeliver: it comes to the node that it is for.
func TestDeliver(t *testing.T) {
	c := start(t, config(3), 1)
	do(t, c, call(0, update(1, "c", "tea", 2)), gossip(1, 0), gossip(2, 0), at(api.StepFlush, 1), at(api.StepFlush, 2))
	do(t, c, packet(api.StepDeliver, 1))
	wantIds(t, "one came", c, 1)
	if held := c.Node(0, 0).Held(); held != 2 {
		t.Error("0 holds back", held)
	}
	do(t, c, at(api.StepFlush, 0))
	l := c.Packets(0)
	if len(l) != 2 || l[1].From != 0 || l[1].To != 2 || message(t, l[1]).Kind != api.MsgDelta {
		t.Fatal("what 0 sends:", l)
	}
	do(t, c, packet(api.StepDeliver, 1))
	wantSame(t, "what 2 has", c.Node(0, 2).Read("c"), tea(2))
	wantSame(t, "what 1 has", c.Node(0, 1).Read("c"), []api.Line{})
}

// TestLose: it comes to nobody.
func TestLose(t *testing.T) {
	c := start(t, config(2), 1)
	do(t, c, call(0, update(1, "c", "tea", 2)), gossip(1, 0), at(api.StepFlush, 1), at(api.StepFlush, 0))
	held := c.Node(0, 0).Held()
	do(t, c, packet(api.StepLose, 0))
	if len(c.Packets(0)) != 0 || c.Node(0, 0).Held() != held {
		t.Error("it came:", c.Packets(0), c.Node(0, 0).Held())
	}
}

// TestTwice: both come.
func TestTwice(t *testing.T) {
	c := start(t, config(2), 1)
	do(t, c, call(0, update(1, "c", "tea", 2)), at(api.StepFlush, 0), gossip(1, 0), at(api.StepFlush, 1), packet(api.StepTwice, 0))
	for i := range 2 {
		do(t, c, packet(api.StepDeliver, 0))
		if held := c.Node(0, 0).Held(); held != i+1 {
			t.Errorf("behind %d: %d", i+1, held)
		}
	}
	do(t, c, at(api.StepFlush, 0), packet(api.StepTwice, 1))
	wantSame(t, "answers", kinds(t, c), []int{api.MsgDelta, api.MsgDelta, api.MsgDelta})
	settle(t, c, 0)
	wantSame(t, "it does no harm", c.Node(0, 1).Read("c"), tea(2))
}

// TestPacketToDown: it is gone.
func TestPacketToDown(t *testing.T) {
	c := start(t, config(2), 1)
	do(t, c, gossip(0, 1), gossip(0, 1), at(api.StepFlush, 0), crash(1), packet(api.StepDeliver, 0))
	wantIds(t, "one is gone", c, 2)
	do(t, c, at(api.StepRestart, 1))
	if held := c.Node(0, 1).Held(); held != 0 {
		t.Error("it came behind the crash:", held)
	}
	do(t, c, call(1, update(1, "c", "tea", 2)), at(api.StepFlush, 1), packet(api.StepDeliver, 0))
	if held := c.Node(0, 1).Held(); held != 1 {
		t.Error("the other one, sent ahead of the crash, did not come:", held)
	}
}

// TestPacketOfDown: what was sent comes, also when its sender is down.
func TestPacketOfDown(t *testing.T) {
	c := start(t, config(2), 1)
	do(t, c, call(1, update(1, "c", "tea", 2)), at(api.StepFlush, 1), gossip(0, 1), at(api.StepFlush, 0), crash(0), packet(api.StepDeliver, 0))
	if held := c.Node(0, 1).Held(); held != 1 {
		t.Error("it did not come:", held)
	}
}

// TestNoRoom: messages for which the net has no room are lost, answers are told.
func TestNoRoom(t *testing.T) {
	c := start(t, config(2), 2)
	do(t, c, gossip(0, 1), at(api.StepFlush, 0))
	for range api.MaxPackets - 2 {
		do(t, c, packet(api.StepTwice, 0))
	}
	do(t, c, gossip(0, 1), call(0, read(1, "c")), gossip(0, 1), call(0, read(2, "c")))
	cart := cartIn(1, 2)
	do(t, c, at(api.StepFlush, 0), call(0, read(3, cart)), in(1, gossip(0, 1)), in(1, at(api.StepFlush, 0)))
	l := c.Packets(0)
	if len(l) != api.MaxPackets || l[len(l)-1].Id != api.MaxPackets {
		t.Errorf("%d packets, the last one %v", len(l), l[len(l)-1])
	}
	if told := c.Told(); len(told) != 3 || len(c.Packets(1)) != 1 {
		t.Error("told:", told, "packets of the other shard:", c.Packets(1))
	}
	wantRefused(t, "no room", c, packet(api.StepTwice, 5), api.ErrFull)
	do(t, c, packet(api.StepLose, 5), packet(api.StepTwice, 5))
	if l := c.Packets(0); len(l) != api.MaxPackets || l[len(l)-1].Id != api.MaxPackets+1 {
		t.Errorf("%d packets, the last one %v", len(l), l[len(l)-1])
	}
}
