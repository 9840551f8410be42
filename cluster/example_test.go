package cluster_test

import (
	"testing"

	"pannier/api"
	"pannier/cluster"
)

// speak has all nodes of the first shard tell one another what they have.
func speak(t *testing.T, c *cluster.Cluster) {
	t.Helper()
	for range 2 {
		for from := range api.MaxNodes {
			for to := range api.MaxNodes {
				if c.Up(0, from) {
					do(t, c, gossip(from, to))
				}
			}
		}
		settle(t, c, 0)
	}
}

func wantReads(t *testing.T, what string, c *cluster.Cluster, wanted []api.Line) {
	t.Helper()
	for id := range api.MaxNodes {
		if c.Up(0, id) {
			wantSame(t, what, c.Node(0, id).Read("c"), wanted)
		}
	}
}

// answer is what the call of that id was told.
func answer(t *testing.T, c *cluster.Cluster, id int) api.Answer {
	t.Helper()
	var a api.Answer
	count := 0
	for _, x := range c.Told() {
		if x.Answer.Id == id {
			a = x.Answer
			count++
		}
	}
	if count != 1 {
		t.Fatalf("call %d was told %d times: %+v", id, count, c.Told())
	}
	return a
}

// TestTwoAdd: two nodes add, without knowing of one another.
func TestTwoAdd(t *testing.T) {
	c := start(t, config(3), 1)
	do(t, c, call(0, update(1, "c", "tea", 1)), call(1, update(2, "c", "tea", 1)))
	speak(t, c)
	wantReads(t, "when they have spoken", c, tea(2))
}

// TestClearWhatWasSeen: an addition that a node had not seen stays.
func TestClearWhatWasSeen(t *testing.T) {
	c := start(t, config(2), 1)
	do(t, c, call(0, update(1, "c", "tea", 5)))
	speak(t, c)
	clear := update(2, "c", "tea", 0)
	clear.Clears = true
	do(t, c, call(0, update(3, "c", "tea", 2)), call(1, clear))
	speak(t, c)
	wantReads(t, "the other one stays", c, tea(2))
}

// TestLateGoesOn: an order is of what the leader had; the rest goes on in the cart. The same token again, at
// another node, behind a crash, is the same order.
func TestLateGoesOn(t *testing.T) {
	c := start(t, config(3), 1)
	lead(t, c, 0, 0)
	do(t, c, call(0, update(1, "c", "tea", 2)), call(1, update(2, "c", "tea", 7)), at(api.StepFlush, 1), call(0, checkout(3, "c", "t")))
	settle(t, c, 0)
	speak(t, c)
	if a := answer(t, c, 3); a.Order.Id != 1 || !same(a.Lines, tea(2)) {
		t.Error("the order:", a)
	}
	wantReads(t, "what goes on", c, tea(7))
	do(t, c, crash(0), tick(200, 200, 200, 200))
	lead(t, c, 0, 1)
	do(t, c, call(1, checkout(4, "c", "t")))
	settle(t, c, 0)
	if a, b := answer(t, c, 3), answer(t, c, 4); !same(a.Order, b.Order) || !same(a.Lines, b.Lines) {
		t.Error("again:", b)
	}
}

// TestTwoCheckouts: of a cart, at once, with two tokens.
func TestTwoCheckouts(t *testing.T) {
	c := start(t, config(3), 1)
	lead(t, c, 0, 0)
	do(t, c, call(0, update(1, "c", "tea", 2)), call(0, checkout(2, "c", "t")), call(0, update(3, "c", "tea", 3)), call(0, checkout(4, "c", "u")))
	settle(t, c, 0)
	a, b := answer(t, c, 2), answer(t, c, 4)
	if a.Order.Id != 1 || a.Order.Epoch != 0 || b.Order.Id != 2 || b.Order.Epoch != 1 {
		t.Errorf("orders: %+v, %+v", a.Order, b.Order)
	}
	sum := 0
	for _, line := range append(a.Lines, b.Lines...) {
		sum += line.Qty
	}
	if sum != 5 {
		t.Errorf("each update is in one order: %v, %v", a.Lines, b.Lines)
	}
	wantReads(t, "the cart", c, nil)
}

// TestCutOffLeader: what it proposes is refused by a majority; the next leader has it chosen, if one of that
// majority voted for it; else nobody is told of it.
func TestCutOffLeader(t *testing.T) {
	for _, reached := range []bool{false, true} {
		c := start(t, config(3), 1)
		lead(t, c, 0, 0)
		do(t, c, call(0, update(1, "c", "tea", 1)), call(0, checkout(2, "c", "t")), at(api.StepFlush, 0))
		for range 2 {
			to := c.Packets(0)[0].To
			if reached && to == 2 {
				do(t, c, packet(api.StepDeliver, 0))
			} else {
				do(t, c, packet(api.StepLose, 0))
			}
		}
		do(t, c, at(api.StepFlush, 2))
		for len(c.Packets(0)) > 0 {
			do(t, c, packet(api.StepLose, 0))
		}
		do(t, c, at(api.StepElect, 1), at(api.StepFlush, 1))
		if m := message(t, c.Packets(0)[0]); m.To != 0 {
			t.Fatal("who is asked first:", m)
		}
		do(t, c, packet(api.StepLose, 0))
		for range 4 {
			for len(c.Packets(0)) > 0 {
				kind := api.StepDeliver
				if p := c.Packets(0)[0]; p.To == 0 {
					kind = api.StepLose
				}
				do(t, c, packet(kind, 0))
			}
			do(t, c, at(api.StepFlush, 1), at(api.StepFlush, 2))
		}
		if entries := c.Node(0, 1).Entries(); len(entries) > 0 != reached || reached && entries[0].Seal.Token != "t" {
			t.Errorf("reached %v: the next leader has %+v", reached, entries)
		}
		if len(c.Told()) != 1 {
			t.Error("told:", c.Told())
		}
	}
}

// TestFullDisk: an error, and the cart is as it was.
func TestFullDisk(t *testing.T) {
	x := config(2)
	x.Disk = 150
	c := start(t, x, 1)
	told := 0
	for i := 1; told == i-1; i++ {
		do(t, c, call(0, update(i, "c", "tea", 1)), at(api.StepFlush, 0))
		if a := answer(t, c, i); a.Err == api.OK {
			told++
		} else if a.Err != api.ErrFull {
			t.Fatal("told:", a)
		}
	}
	if told == 0 {
		t.Fatal("there is no room at all")
	}
	wantSame(t, "it is full", c.Node(0, 0).Read("c"), tea(told))
	do(t, c, crash(0), at(api.StepRestart, 0))
	wantSame(t, "behind a crash", c.Node(0, 0).Read("c"), tea(told))
}

// TestGreatest: as many shards and nodes as there may be.
func TestGreatest(t *testing.T) {
	c := start(t, config(api.MaxNodes), api.MaxShards)
	for shard := range api.MaxShards {
		id := shard % api.MaxNodes
		lead(t, c, shard, id)
		cart := cartIn(shard, api.MaxShards)
		do(t, c, call(id, update(10*shard+1, cart, "tea", 1)), call(id, checkout(10*shard+2, cart, "t")))
		settle(t, c, shard)
		if a := answer(t, c, 10*shard+2); a.Order.Id != 1 || !same(a.Lines, tea(1)) {
			t.Errorf("shard %d: %+v", shard, a)
		}
		for other := range api.MaxNodes {
			if n := len(c.Node(shard, other).Entries()); n != 1 {
				t.Errorf("node %d of shard %d has learned %d", other, shard, n)
			}
		}
	}
}
