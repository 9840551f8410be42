package cluster_test

import (
	"testing"

	"pannier/api"
	"pannier/cluster"
)

// unsure is how many bytes the second update has.
func unsure(t *testing.T) (string, int) {
	t.Helper()
	const file = "n-log-1"
	for bytes := 1; ; bytes++ {
		c := taken(t)
		if err := c.Do(crash(0, api.Torn{Name: file, Bytes: bytes})); err != api.OK {
			return file, bytes - 1
		}
	}
}

// taken answers a cluster whose first node told an update, and took another one.
func taken(t *testing.T) *cluster.Cluster {
	t.Helper()
	c := start(t, config(2), 1)
	do(t, c, call(0, update(1, "c", "tea", 1)), at(api.StepFlush, 0), call(0, update(2, "c", "tea", 2)))
	return c
}

// TestTornEnds: what was told is there; what was taken alone is there if all of it lasted.
func TestTornEnds(t *testing.T) {
	file, all := unsure(t)
	if all < 10 {
		t.Fatal("an update has", all, "bytes")
	}
	for bytes := range all + 1 {
		c := taken(t)
		do(t, c, crash(0, api.Torn{Name: file, Bytes: bytes}))
		if c.Up(0, 0) || !c.Up(0, 1) {
			t.Fatal("which are up:", c.Up(0, 0), c.Up(0, 1))
		}
		do(t, c, at(api.StepRestart, 0))
		wanted := 1
		if bytes == all {
			wanted = 3
		}
		wantSame(t, "behind a crash", c.Node(0, 0).Read("c"), tea(wanted))
		if n := c.Node(0, 0); n.Held() != 0 || len(c.Told()) != 1 {
			t.Error("it holds back", n.Held(), "and told", c.Told())
		}
	}
	c := taken(t)
	do(t, c, crash(0), at(api.StepRestart, 0))
	wantSame(t, "behind a crash that leaves nothing", c.Node(0, 0).Read("c"), tea(1))
}

// TestCrashRefused: the node stays up, and the disk is as it was.
func TestCrashRefused(t *testing.T) {
	file, all := unsure(t)
	c := taken(t)
	for _, keep := range [][]api.Torn{
		{{Name: file, Bytes: all + 1}},
		{{Name: file, Bytes: -1}},
		{{Name: "none"}},
		{{Name: ""}},
		{{Name: file, Bytes: 1}, {Name: file, Bytes: 1}},
		{{Name: file, Bytes: 1}, {Name: "none"}},
	} {
		wantRefused(t, "what does not last", c, crash(0, keep...), api.ErrArg)
	}
	if !c.Up(0, 0) {
		t.Fatal("it is down")
	}
	do(t, c, at(api.StepFlush, 0), crash(0), at(api.StepRestart, 0))
	wantSame(t, "it told, and crashed", c.Node(0, 0).Read("c"), tea(3))
	wantSame(t, "told", lastTold(t, c).Answer.Dot, api.Dot{Seq: 2})
}

// TestCrashForgets: what waits and is held back, who leads, is gone; what was told is there.
func TestCrashForgets(t *testing.T) {
	c := start(t, config(3), 1)
	lead(t, c, 0, 0)
	do(t, c, call(0, update(1, "c", "tea", 1)), at(api.StepFlush, 0), call(0, checkout(2, "c", "t")), gossip(0, 1))
	promised := c.Node(0, 0).Promised()
	do(t, c, crash(0), at(api.StepRestart, 0))
	n := c.Node(0, 0)
	if n.Waits() != 0 || n.Held() != 0 || n.Phase() != api.PhaseIdle || n.Promised() != promised {
		t.Errorf("it has %s", state(n))
	}
	settle(t, c, 0)
	if len(c.Told()) != 1 || len(c.Made()) != 2 {
		t.Error("told:", c.Told(), "made:", c.Made())
	}
}

// TestAllCrash: leases are waited for, a node leads, all is there that was told, and the same token has the
// same order.
func TestAllCrash(t *testing.T) {
	c := start(t, config(3), 1)
	lead(t, c, 0, 0)
	do(t, c, call(0, update(1, "c", "tea", 4)), call(0, checkout(2, "c", "t")))
	settle(t, c, 0)
	first := lastTold(t, c).Answer
	for id := range 3 {
		do(t, c, crash(id))
	}
	for id := range 3 {
		do(t, c, at(api.StepRestart, id))
	}
	do(t, c, at(api.StepElect, 2))
	settle(t, c, 0)
	if c.Node(0, 2).Phase() == api.PhaseLeading {
		t.Error("it leads at once")
	}
	do(t, c, tick(100, 100, 100, 100))
	lead(t, c, 0, 2)
	do(t, c, call(2, checkout(3, "c", "t")))
	settle(t, c, 0)
	second := lastTold(t, c).Answer
	if second.Id != 3 || first.Id != 2 || second.Order.Id != 1 || !same(second.Order, first.Order) || !same(second.Lines, tea(4)) {
		t.Errorf("at first %+v, then %+v", first, second)
	}
}
