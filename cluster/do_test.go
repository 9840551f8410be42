package cluster_test

import (
	"math"
	"math/rand"
	"strings"
	"testing"

	"pannier/api"
	"pannier/router"
)

// ofNodes are the kinds of steps that a node is named for, but calls and restarts.
func ofNodes() []int {
	return []int{api.StepCrash, api.StepElect, api.StepRenew, api.StepGossip, api.StepFlush, api.StepAgain, api.StepCompact, api.StepStop}
}

// ofPackets are those with packets.
func ofPackets() []int {
	return []int{api.StepDeliver, api.StepLose, api.StepTwice}
}

// none are numbers of which there is neither a shard nor a node, if there are so many.
func none(count int) []int {
	return []int{-1, count, count + 1, api.MaxNodes + 1, 1 << 32, math.MaxInt, math.MinInt}
}

func TestKindsThatAreNone(t *testing.T) {
	c := start(t, config(2), 1)
	for _, kind := range []int{0, -1, api.StepStop + 1, 255, 256 + api.StepCall, 1<<32 + api.StepFlush, math.MaxInt, math.MinInt} {
		wantRefused(t, "a kind that is none", c, api.Step{Kind: kind, Call: read(1, "c"), Time: 1, On: []int{1, 1}}, api.ErrArg)
	}
}

func TestShardsThatAreNone(t *testing.T) {
	c := start(t, config(2), 2)
	do(t, c, gossip(0, 1), at(api.StepFlush, 0))
	for _, shard := range none(2) {
		for _, kind := range append(append(ofNodes(), ofPackets()...), api.StepRestart) {
			wantRefused(t, "a shard that is none", c, api.Step{Kind: kind, Shard: shard}, api.ErrArg)
		}
		wantRefused(t, "a tick of none", c, in(shard, tick(1, 1, 1)), api.ErrArg)
	}
}

// TestShardOfCall: a call's own shard is not used.
func TestShardOfCall(t *testing.T) {
	c := start(t, config(2), 3)
	var wanted []api.Made
	for _, shard := range append(none(3), 0, 1, 2) {
		for of := range 3 {
			x := update(len(wanted), cartIn(of, 3), "tea", 1)
			do(t, c, in(shard, call(1, x)))
			wanted = append(wanted, api.Made{Step: c.Steps(), Shard: of, Node: 1, Call: x})
		}
	}
	wantSame(t, "made", c.Made(), wanted)
	for of := range 3 {
		wantSame(t, "applied", c.Node(of, 1).Applied(), []int{0, len(wanted) / 3})
	}
}

func TestNodesThatAreNone(t *testing.T) {
	c := start(t, config(2), 2)
	for _, id := range none(2) {
		for _, kind := range append(ofNodes(), api.StepRestart) {
			wantRefused(t, "a node that is none", c, in(1, at(kind, id)), api.ErrArg)
		}
		wantRefused(t, "a call to none", c, call(id, read(1, "c")), api.ErrArg)
		wantRefused(t, "a call that may not be, to none", c, call(id, read(1, "")), api.ErrArg)
	}
}

// TestNodesThatSayNothing: of packets and ticks.
func TestNodesThatSayNothing(t *testing.T) {
	for _, id := range append(none(2), 0, 1) {
		c := start(t, config(2), 1)
		do(t, c, gossip(0, 1), at(api.StepFlush, 0), crash(1))
		for _, s := range []api.Step{packet(api.StepTwice, 0), packet(api.StepTwice, 0), packet(api.StepDeliver, 0), packet(api.StepLose, 0), tick(3, 3, 3)} {
			s.Node = id
			do(t, c, s)
		}
		if len(c.Packets(0)) != 1 || c.Now(0, 0) != 3 {
			t.Errorf("node %d: %v, %d", id, c.Packets(0), c.Now(0, 0))
		}
	}
}

func TestDown(t *testing.T) {
	c := start(t, config(2), 2)
	do(t, c, in(1, crash(1)))
	for _, kind := range ofNodes() {
		s := in(1, at(kind, 1))
		wantRefused(t, "of one that is down", c, s, api.ErrDown)
		s.Keep, s.At = []api.Torn{{Name: "none"}}, 7
		wantRefused(t, "and in vain", c, s, api.ErrDown)
		do(t, c, in(1, at(kind, 0)))
		if kind == api.StepCrash {
			do(t, c, in(1, at(api.StepRestart, 0)))
		}
		do(t, c, at(kind, 1))
		if kind == api.StepCrash {
			do(t, c, at(api.StepRestart, 1))
		}
	}
	cart := cartIn(1, 2)
	wantRefused(t, "a call", c, call(1, read(1, cart)), api.ErrDown)
	wantRefused(t, "a call that may not be", c, call(1, api.Call{Cart: cart}), api.ErrDown)
	wantRefused(t, "a node that is none", c, in(1, at(api.StepElect, 2)), api.ErrArg)
	if c.Up(1, 1) || c.Node(1, 1) != nil || !c.Up(1, 0) || !c.Up(0, 1) {
		t.Error("which are up:", c.Up(1, 1), c.Up(1, 0), c.Up(0, 1))
	}
	do(t, c, in(1, at(api.StepRestart, 1)))
	if !c.Up(1, 1) || c.Node(1, 1) == nil {
		t.Error("it is not up")
	}
}

func TestRestartTwice(t *testing.T) {
	c := start(t, config(2), 1)
	wantRefused(t, "at first", c, at(api.StepRestart, 0), api.ErrTwice)
	before := c.Node(0, 0)
	do(t, c, crash(0), at(api.StepRestart, 0))
	if c.Node(0, 0) == before {
		t.Error("it is the same node")
	}
	wantRefused(t, "behind one", c, at(api.StepRestart, 0), api.ErrTwice)
}

// TestRestartRefused: what node.New refuses is told, and the node stays down. A node that goes on behind its
// crash, which no script can do, spoils its files.
func TestRestartRefused(t *testing.T) {
	x := config(2)
	x.Segment = 1
	c := start(t, x, 1)
	dead := c.Node(0, 0)
	do(t, c, call(0, update(1, "c", "tea", 1)), at(api.StepFlush, 0), crash(0), at(api.StepRestart, 0))
	for i := range 3 {
		dead.Call(update(1, "c", "tea", 1))
		dead.Flush()
		do(t, c, call(0, update(2+i, "c", "tea", 1)), at(api.StepFlush, 0))
	}
	do(t, c, crash(0))
	wantRefused(t, "on files that are none of a log's", c, at(api.StepRestart, 0), api.ErrWal)
	wantRefused(t, "and again", c, at(api.StepRestart, 0), api.ErrWal)
	if c.Up(0, 0) || !c.Up(0, 1) {
		t.Error("it is up, or the other one is not")
	}
	wantRefused(t, "it is down", c, at(api.StepElect, 0), api.ErrDown)
}

func TestCallRefused(t *testing.T) {
	c := start(t, config(2), 1)
	for _, x := range []api.Call{{}, {Kind: 5, Cart: "c"}, read(1, ""), read(1, "C"), update(1, "c", "", 1), update(1, "c", "tea", -1), update(1, "c", "tea", api.MaxQty+1), checkout(1, "c", ""), status(1, "c", "T")} {
		wantRefused(t, "a call that may not be", c, call(1, x), api.ErrCall)
	}
}

// TestCallsThatMayBe: just those are taken that the router takes.
func TestCallsThatMayBe(t *testing.T) {
	rng := rand.New(rand.NewSource(1))
	names := []string{"c", "d", "tea", "jam", "t", "-", "7", strings.Repeat("x", api.MaxName), "", "C", strings.Repeat("x", api.MaxName+1)}
	name := func() string { return names[rng.Intn(len(names))] }
	c := start(t, config(1), 3)
	count := 0
	for i := range 2000 {
		x := api.Call{Id: i, Kind: rng.Intn(6), Cart: name(), Sku: name(), Token: name(), Qty: []int{-1, 0, 1, api.MaxQty, api.MaxQty + 1}[rng.Intn(5)]}
		wanted := router.Check(x)
		if err := c.Do(call(0, x)); err != wanted {
			t.Errorf("Do(%+v): %d, not %d", x, err, wanted)
		}
		if wanted == api.OK {
			count++
		}
	}
	if len(c.Made()) != count || count < 200 {
		t.Errorf("%d calls are written down, and %d may be", len(c.Made()), count)
	}
}

// TestMade: what is taken is written down as it was asked, also if it is answered with an error.
func TestMade(t *testing.T) {
	c := start(t, config(2), 2)
	cart := cartIn(1, 2)
	full := api.Call{Id: -7, Kind: api.CallUpdate, Cart: cart, Sku: "tea", Qty: 1000, Clears: true, Token: "not used"}
	do(t, c, call(0, full))
	wantRefused(t, "between", c, call(0, api.Call{}), api.ErrCall)
	do(t, c, call(1, checkout(2, cart, "t")), call(1, checkout(2, cart, "t")))
	wantSame(t, "made", c.Made(), []api.Made{
		{Step: 1, Shard: 1, Node: 0, Call: full},
		{Step: 3, Shard: 1, Node: 1, Call: checkout(2, cart, "t")},
		{Step: 4, Shard: 1, Node: 1, Call: checkout(2, cart, "t")},
	})
	do(t, c, in(1, at(api.StepFlush, 1)))
	wantSame(t, "told", c.Told(), []api.Told{
		{Step: 5, Shard: 1, Node: 1, Answer: api.Answer{Id: 2, Err: api.ErrNone}},
		{Step: 5, Shard: 1, Node: 1, Answer: api.Answer{Id: 2, Err: api.ErrNone}},
	})
}

// TestSteps: they are numbered from 1 on, those too that are refused.
func TestSteps(t *testing.T) {
	c := start(t, config(1), 1)
	refused := []api.Step{{}, at(api.StepElect, 1), at(api.StepRestart, 0), packet(api.StepDeliver, 0), call(0, api.Call{}), tick(-1, 0)}
	count := 0
	for i, s := range refused {
		if err := c.Do(s); err == api.OK {
			t.Errorf("%+v is OK", s)
		}
		do(t, c, call(0, read(i, "c")), at(api.StepFlush, 0))
		count += 3
		if c.Steps() != count {
			t.Errorf("%d steps, not %d", c.Steps(), count)
		}
		if m, a := c.Made()[i], c.Told()[i]; m.Step != count-1 || a.Step != count || a.Answer.Id != i {
			t.Errorf("made at %d, told at %d (%d)", m.Step, a.Step, a.Answer.Id)
		}
	}
}

// TestElect, and what comes of it: Again, Renew, a status from the lease.
func TestElect(t *testing.T) {
	c := start(t, config(3), 1)
	do(t, c, at(api.StepElect, 1))
	if c.Node(0, 1).Phase() != api.PhasePreparing || c.Node(0, 0).Phase() != api.PhaseIdle {
		t.Error("phases:", c.Node(0, 1).Phase(), c.Node(0, 0).Phase())
	}
	do(t, c, at(api.StepFlush, 1))
	wantSame(t, "Elect", kinds(t, c), []int{api.MsgPrepare, api.MsgPrepare})
	do(t, c, packet(api.StepLose, 0), packet(api.StepLose, 0), at(api.StepAgain, 1), at(api.StepFlush, 1))
	wantSame(t, "Again", kinds(t, c), []int{api.MsgPrepare, api.MsgPrepare})
	settle(t, c, 0)
	do(t, c, call(1, status(1, "c", "t")), at(api.StepFlush, 1))
	if len(c.Told()) != 0 {
		t.Error("told without a lease:", c.Told())
	}
	settle(t, c, 0)
	if a := lastTold(t, c).Answer; a.Id != 1 || a.Known || a.Learned != 1 {
		t.Error("a status through the log:", a)
	}
	do(t, c, at(api.StepRenew, 1), at(api.StepFlush, 1))
	wantSame(t, "Renew", kinds(t, c), []int{api.MsgLease, api.MsgLease})
	settle(t, c, 0)
	do(t, c, call(1, status(2, "c", "t")), at(api.StepFlush, 1))
	if a := lastTold(t, c).Answer; a.Id != 2 || a.Known || a.Learned != 1 {
		t.Error("a status from the lease:", a)
	}
}

func TestGossip(t *testing.T) {
	for _, to := range []int{1, 2} {
		c := start(t, config(3), 1)
		do(t, c, gossip(0, to), at(api.StepFlush, 0))
		l := c.Packets(0)
		if len(l) != 1 || l[0].From != 0 || l[0].To != to || message(t, l[0]).Kind != api.MsgDigest {
			t.Errorf("to %d: %v", to, l)
		}
	}
	c := start(t, config(3), 1)
	for _, to := range append(none(3), 0) {
		do(t, c, gossip(0, to), at(api.StepFlush, 0))
	}
	if len(c.Packets(0)) != 0 {
		t.Error("to nobody:", c.Packets(0))
	}
}

// TestCompact: it makes room, as a snapshot counts in the stead of records.
func TestCompact(t *testing.T) {
	x := config(1)
	x.Disk, x.Segment = 400, 40
	c := start(t, x, 1)
	for i := range 4 {
		do(t, c, call(0, update(i, "c", "tea", 1)), at(api.StepFlush, 0))
	}
	if a := lastTold(t, c).Answer; a.Err != api.OK {
		t.Fatal("it is full already:", a)
	}
	do(t, c, at(api.StepCompact, 0), crash(0), at(api.StepRestart, 0))
	wantSame(t, "behind it", c.Node(0, 0).Applied(), []int{4})
	for i := 0; lastTold(t, c).Answer.Err != api.ErrFull; i++ {
		do(t, c, call(0, update(i, "c", "tea", 1)), at(api.StepFlush, 0))
	}
	wantRefused(t, "on a full disk", c, at(api.StepCompact, 0), api.ErrFull)
	do(t, c, stop(0, 0))
	wantRefused(t, "on a disk that is off", c, at(api.StepCompact, 0), api.ErrOff)
}

// TestStop: the power goes behind so many changes of the disk.
func TestStop(t *testing.T) {
	for calls := range 5 {
		c := start(t, config(2), 2)
		do(t, c, call(1, update(9, cartIn(1, 2), "tea", 1)), in(1, at(api.StepFlush, 1)), in(1, stop(1, calls)))
		told := 1
		for i := range 5 {
			do(t, c, call(1, update(i, cartIn(1, 2), "tea", 1)))
			if err := c.Do(in(1, at(api.StepFlush, 1))); err != api.OK {
				break
			}
			told++
		}
		if wanted := 1 + calls/2; told != wanted || len(c.Told()) != wanted {
			t.Errorf("behind %d: %d flushes, %v", calls, told, c.Told())
		}
		wantRefused(t, "off", c, in(1, at(api.StepFlush, 1)), api.ErrOff)
		do(t, c, in(1, stop(1, -1)))
		wantRefused(t, "off still", c, in(1, at(api.StepFlush, 1)), api.ErrOff)
		// The disks of the others are on.
		for _, s := range []api.Step{at(api.StepFlush, 1), in(1, at(api.StepFlush, 0))} {
			do(t, c, call(s.Node, update(9, cartIn(s.Shard, 2), "tea", 1)), s)
		}
		do(t, c, in(1, crash(1)), in(1, at(api.StepRestart, 1)), call(1, update(9, cartIn(1, 2), "tea", 1)), in(1, at(api.StepFlush, 1)))
		wantSame(t, "behind the crash", lastTold(t, c).Answer.Applied, []int{0, told + 1})
	}
}

// TestStopNever: below 0, and behind what was to come.
func TestStopNever(t *testing.T) {
	for _, calls := range []int{-1, math.MinInt} {
		c := start(t, config(1), 1)
		do(t, c, stop(0, 1), stop(0, calls))
		for i := range 5 {
			do(t, c, call(0, update(i, "c", "tea", 1)), at(api.StepFlush, 0))
		}
		wantSame(t, "applied", lastTold(t, c).Answer.Applied, []int{5})
	}
}

// TestShardsApart: what happens in one is nothing to another one.
func TestShardsApart(t *testing.T) {
	c := start(t, config(3), 3)
	for shard := range 3 {
		lead(t, c, shard, shard)
		cart := cartIn(shard, 3)
		do(t, c, call(shard, update(shard, cart, "tea", shard+1)), call(shard, checkout(10+shard, cart, "t")))
		settle(t, c, shard)
		a := lastTold(t, c)
		if a.Shard != shard || a.Node != shard || a.Answer.Id != 10+shard || a.Answer.Order.Id != 1 || !same(a.Answer.Lines, tea(shard+1)) {
			t.Errorf("shard %d: %+v", shard, a)
		}
		do(t, c, in(shard, crash(shard)), in(shard, tick(shard, shard, shard, shard)))
	}
	for shard := range 3 {
		for id := range 3 {
			if c.Up(shard, id) != (shard != id) || c.Now(shard, id) != shard {
				t.Errorf("node %d of shard %d: %v, %d", id, shard, c.Up(shard, id), c.Now(shard, id))
			}
		}
	}
}

// TestNodeIsIt: the node that is told is the one that steps are for.
func TestNodeIsIt(t *testing.T) {
	c := start(t, config(2), 1)
	n := c.Node(0, 1)
	do(t, c, call(1, update(1, "c", "tea", 3)))
	if n.Held() != 1 || !same(n.Read("c"), tea(3)) || c.Node(0, 1) != n {
		t.Error("it has", n.Held(), n.Read("c"))
	}
}
