package cluster_test

import (
	"math"
	"testing"

	"pannier/api"
	"pannier/cluster"
	"pannier/node"
)

func TestNewRefuses(t *testing.T) {
	good := config(3)
	change := func(f func(c *api.Config)) api.Config {
		c := good
		f(&c)
		return c
	}
	configs := []api.Config{
		{},
		change(func(c *api.Config) { c.Nodes = 0 }),
		change(func(c *api.Config) { c.Nodes = -1 }),
		change(func(c *api.Config) { c.Nodes = api.MaxNodes + 1 }),
		change(func(c *api.Config) { c.Nodes = math.MaxInt }),
		change(func(c *api.Config) { c.Lease = 0 }),
		change(func(c *api.Config) { c.Lease = api.MaxTick + 1 }),
		change(func(c *api.Config) { c.Drift = -1 }),
		change(func(c *api.Config) { c.Drift = api.MaxDrift }),
		change(func(c *api.Config) { c.Segment = 0 }),
		change(func(c *api.Config) { c.Segment = api.MaxSegment + 1 }),
		change(func(c *api.Config) { c.Disk = -1 }),
		change(func(c *api.Config) { c.Disk = api.MaxDisk + 1 }),
	}
	for _, c := range configs {
		if got, err := cluster.New(c, 1); got != nil || err != api.ErrArg {
			t.Errorf("New(%+v, 1): %v, %d", c, got, err)
		}
	}
	for _, shards := range []int{0, -1, api.MaxShards + 1, math.MaxInt, math.MinInt} {
		if got, err := cluster.New(good, shards); got != nil || err != api.ErrArg {
			t.Errorf("New with %d shards: %v, %d", shards, got, err)
		}
	}
}

// TestNew: all nodes are up at first, whatever the config, and there is nothing else.
func TestNew(t *testing.T) {
	configs := []api.Config{
		config(1), config(3), config(api.MaxNodes),
		{Nodes: 2, Lease: 1, Drift: 0, Segment: 1, Disk: 0},
		{Nodes: 2, Lease: api.MaxTick, Drift: api.MaxDrift - 1, Segment: api.MaxSegment, Disk: api.MaxDisk},
	}
	for _, c := range configs {
		for shards := 1; shards <= api.MaxShards; shards++ {
			wantNew(t, c, shards)
		}
	}
}

func wantNew(t *testing.T, c api.Config, shards int) {
	t.Helper()
	all := start(t, c, shards)
	if all.Steps() != 0 || len(all.Made()) != 0 || len(all.Told()) != 0 || !all.Keeps(0) {
		t.Errorf("%+v, %d: %d steps, %v, %v", c, shards, all.Steps(), all.Made(), all.Told())
	}
	seen := map[*node.Node]bool{}
	for shard := -1; shard <= shards; shard++ {
		if len(all.Packets(shard)) != 0 {
			t.Error("packets:", all.Packets(shard))
		}
		for id := -1; id <= c.Nodes; id++ {
			wanted := 0 <= shard && shard < shards && 0 <= id && id < c.Nodes
			n := all.Node(shard, id)
			if all.Up(shard, id) != wanted || (n != nil) != wanted || all.Now(shard, id) != 0 || n != nil && seen[n] {
				t.Errorf("%+v, %d: node %d of shard %d: %v, %v", c, shards, id, shard, all.Up(shard, id), n)
			}
			seen[n] = true
		}
	}
}

// TestNone: of what there is not.
func TestNone(t *testing.T) {
	c := start(t, config(2), 2)
	do(t, c, in(1, tick(10, 10, 10)), in(1, gossip(0, 1)), in(1, at(api.StepFlush, 0)))
	for _, x := range [][2]int{{2, 0}, {-1, 0}, {math.MaxInt, 0}, {math.MinInt, 0}, {1, 2}, {1, -1}, {1, math.MaxInt}, {1, math.MinInt}} {
		if c.Up(x[0], x[1]) || c.Node(x[0], x[1]) != nil || c.Now(x[0], x[1]) != 0 {
			t.Errorf("node %d of shard %d: %v, %v, %d", x[1], x[0], c.Up(x[0], x[1]), c.Node(x[0], x[1]), c.Now(x[0], x[1]))
		}
	}
	for _, shard := range []int{2, -1, math.MaxInt, math.MinInt} {
		if len(c.Packets(shard)) != 0 {
			t.Errorf("packets of shard %d: %v", shard, c.Packets(shard))
		}
	}
	if len(c.Packets(1)) != 1 || c.Now(1, 1) != 10 {
		t.Error("and of what there is:", c.Packets(1), c.Now(1, 1))
	}
}

// TestClosed: of a nil Cluster, and of one that no New made.
func TestClosed(t *testing.T) {
	for _, c := range []*cluster.Cluster{nil, {}} {
		for kind := range api.StepStop + 2 {
			for _, s := range []api.Step{at(kind, 0), {Kind: kind, Shard: -1, Node: -1, Call: read(1, "c")}} {
				if err := c.Do(s); err != api.ErrClosed {
					t.Errorf("Do(%+v): %d", s, err)
				}
			}
		}
		if c.Steps() != 0 || len(c.Made()) != 0 || len(c.Told()) != 0 || len(c.Packets(0)) != 0 {
			t.Error("it has something:", c.Steps(), c.Made(), c.Told(), c.Packets(0))
		}
		if c.Up(0, 0) || c.Node(0, 0) != nil || c.Now(0, 0) != 0 || c.Keeps(0) || c.Keeps(100) {
			t.Error("it tells something:", c.Up(0, 0), c.Node(0, 0), c.Now(0, 0), c.Keeps(0))
		}
	}
}

// TestExample: of 3 nodes one leads, and a call is told.
func TestExample(t *testing.T) {
	c := start(t, config(3), 1)
	do(t, c, at(api.StepElect, 0))
	for range 2 {
		flushAll(t, c, 0)
		for len(c.Packets(0)) > 0 {
			do(t, c, packet(api.StepDeliver, 0))
		}
	}
	if c.Node(0, 0).Phase() != api.PhaseLeading {
		t.Error("0 does not lead")
	}
	do(t, c, call(2, update(1, "c", "tea", 2)), at(api.StepFlush, 2))
	told := lastTold(t, c)
	wantSame(t, "told", told, api.Told{Step: c.Steps(), Node: 2, Answer: api.Answer{Id: 1, Dot: api.Dot{Origin: 2, Seq: 1}, Applied: []int{0, 0, 1}}})
}
