package cluster_test

import (
	"math"
	"testing"

	"pannier/api"
	"pannier/cluster"
)

func wantNow(t *testing.T, what string, c *cluster.Cluster, shard int, wanted ...int) {
	t.Helper()
	for id, now := range wanted {
		if got := c.Now(shard, id); got != now {
			t.Errorf("%s: the clock of node %d of shard %d is %d, not %d", what, id, shard, got, now)
		}
	}
}

func wantKeeps(t *testing.T, what string, c *cluster.Cluster, from int) {
	t.Helper()
	for _, drift := range []int{0, from - 1, from, from + 1, 500, api.MaxDrift - 1} {
		if got, wanted := c.Keeps(drift), drift >= max(from, 0) && drift < api.MaxDrift; got != wanted {
			t.Errorf("%s: Keeps(%d): %v", what, drift, got)
		}
	}
	for _, drift := range []int{-1, api.MaxDrift, math.MaxInt, math.MinInt} {
		if c.Keeps(drift) {
			t.Errorf("%s: Keeps(%d)", what, drift)
		}
	}
}

func TestTick(t *testing.T) {
	c := start(t, config(3), 2)
	wantKeeps(t, "at first", c, 0)
	do(t, c, in(1, tick(1000, 1000, 1000, 1000)))
	wantKeeps(t, "at the same pace", c, 0)
	do(t, c, in(1, tick(1000, 950, 1000, 1040)))
	wantNow(t, "of the shard", c, 1, 1950, 2000, 2040)
	wantNow(t, "of the other one", c, 0, 0, 0, 0)
	wantKeeps(t, "one of the shards", c, 50)
	do(t, c, tick(1000, 1000, 1000, 1100))
	wantNow(t, "of the other one", c, 0, 1000, 1000, 1100)
	wantKeeps(t, "both", c, 100)
	do(t, c, in(1, tick(api.MaxTick, 0, 0, 0)))
	wantKeeps(t, "clocks that stand", c, api.MaxDrift)
	do(t, c, tick(0, 0, 0, api.MaxTick))
	wantNow(t, "one goes ahead", c, 0, 1000, 1000, 1100+api.MaxTick)
	wantNow(t, "beyond", c, 0, 1000, 1000, 1100+api.MaxTick, 0)
}

func TestTickRefused(t *testing.T) {
	c := start(t, config(2), 1)
	do(t, c, tick(10, 10, 11))
	for _, s := range []api.Step{tick(1), tick(1, 1), tick(1, 1, 1, 1), tick(-1, 1, 1), tick(api.MaxTick+1, 1, 1), tick(1, -1, 1), tick(1, 1, -1), tick(1, 1, api.MaxTick+1), tick(math.MaxInt, 1, 1), tick(1, math.MinInt, 1)} {
		wantRefused(t, "a tick that may not be", c, s, api.ErrArg)
	}
	wantNow(t, "behind it", c, 0, 10, 11)
}

// blocked asks whether the hold of a node keeps the election of 0 away, which is asked in vain for that.
func blocked(t *testing.T, c *cluster.Cluster, id int) bool {
	t.Helper()
	before := c.Node(0, id).Promised()
	do(t, c, at(api.StepElect, 0))
	settle(t, c, 0)
	return c.Node(0, id).Promised() == before
}

// TestRestartAtClock: a node begins at its own clock, which goes on while it is down; its hold ends a lease
// behind that.
func TestRestartAtClock(t *testing.T) {
	c := start(t, config(3), 1)
	do(t, c, call(2, update(1, "c", "tea", 1)), at(api.StepFlush, 2), tick(30, 30, 33, 27), crash(2), tick(100, 100, 100, 110))
	wantNow(t, "while it is down", c, 0, 130, 133, 137)
	do(t, c, at(api.StepRestart, 2), tick(90, 90, 90, 99))
	if !blocked(t, c, 2) {
		t.Error("it is over too early, at", c.Now(0, 2)-137)
	}
	do(t, c, tick(1, 1, 1, 1))
	if blocked(t, c, 2) {
		t.Error("it is not over at", c.Now(0, 2)-137)
	}
}

// TestTickComesToAll: each node that is up is told its own clock.
func TestTickComesToAll(t *testing.T) {
	c := start(t, config(4), 1)
	for id := 1; id < 4; id++ {
		do(t, c, call(id, update(id, "c", "tea", 1)), at(api.StepFlush, id), crash(id), at(api.StepRestart, id))
	}
	do(t, c, tick(100, 0, 99, 100, 101))
	for id := 1; id < 4; id++ {
		if got := blocked(t, c, id); got != (c.Now(0, id) < 100) {
			t.Errorf("node %d at %d: %v", id, c.Now(0, id), got)
		}
	}
}

// TestLeaseEnds: a status is told from a lease while it counts by the leader's clock, then through the log.
func TestLeaseEnds(t *testing.T) {
	c := start(t, config(3), 1)
	lead(t, c, 0, 1)
	do(t, c, at(api.StepRenew, 1))
	settle(t, c, 0)
	// 100 times 900 by 1100 are 81.
	do(t, c, tick(80, 72, 80, 88), call(1, status(1, "c", "t")), at(api.StepFlush, 1))
	if l := c.Told(); len(l) != 1 {
		t.Error("at 80:", l)
	}
	do(t, c, tick(1, 1, 1, 1), call(1, status(2, "c", "t")), at(api.StepFlush, 1))
	if l := c.Told(); len(l) != 1 {
		t.Error("at 81:", l)
	}
	settle(t, c, 0)
	if a := lastTold(t, c).Answer; a.Id != 2 || a.Known || a.Learned != 1 {
		t.Error("through the log:", a)
	}
}

// TestOneAtATime: while a slow leader's lease counts, others whose clocks are fast wait; when they wait no more,
// it does not count. What they told then, it does not deny.
func TestOneAtATime(t *testing.T) {
	x := config(3)
	x.Lease = 1100
	c := start(t, x, 1)
	lead(t, c, 0, 0)
	do(t, c, at(api.StepRenew, 0))
	settle(t, c, 0)
	// 1100 times 900 by 1100 are 900: so far the leader trusts its lease, while theirs go on by 1100.
	do(t, c, tick(998, 899, 1097, 1097), call(0, status(1, "c", "t")), at(api.StepFlush, 0))
	if a := lastTold(t, c).Answer; a.Id != 1 || a.Known {
		t.Fatal("its lease does not count:", a)
	}
	// The leader is cut off: what it is sent, or sends, does not come.
	apart := func(s api.Step) {
		t.Helper()
		do(t, c, s)
		for range 4 {
			for place := len(c.Packets(0)) - 1; place >= 0; place-- {
				if p := c.Packets(0)[place]; p.From != 0 && p.To != 0 {
					do(t, c, packet(api.StepDeliver, place))
				}
			}
			do(t, c, at(api.StepFlush, 1), at(api.StepFlush, 2))
		}
	}
	apart(at(api.StepElect, 1))
	if c.Node(0, 1).Phase() == api.PhaseLeading {
		t.Fatal("another one leads, and a lease counts")
	}
	do(t, c, tick(3, 3, 3, 3))
	apart(at(api.StepElect, 1))
	if c.Node(0, 1).Phase() != api.PhaseLeading || c.Node(0, 0).Phase() != api.PhaseLeading {
		t.Fatal("phases:", c.Node(0, 1).Phase(), c.Node(0, 0).Phase())
	}
	apart(call(1, checkout(2, "c", "t")))
	if a := lastTold(t, c).Answer; a.Id != 2 || a.Order.Id != 1 {
		t.Fatal("the checkout:", a)
	}
	do(t, c, call(0, status(3, "c", "t")), at(api.StepFlush, 0))
	if a := lastTold(t, c).Answer; a.Id != 2 {
		t.Error("the elder leader tells", a)
	}
	if !c.Keeps(x.Drift) {
		t.Error("the drift was not kept")
	}
}
