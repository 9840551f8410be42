package whole_test

import (
	"fmt"
	"slices"
	"testing"

	"pannier/api"
	"pannier/audit"
	"pannier/cluster"
	"pannier/router"
)

// world is a cluster, the script of what happened in it, and what has to be looked at meanwhile.
type world struct {
	t      *testing.T
	name   string
	config api.Config
	shards int
	c      *cluster.Cluster
	script []api.Step
	logs   [][]api.Entry // of each shard the longest one that a node ever had
	ids    int           // of calls
	probes [][]int       // statuses that were asked at one moment, of all who lead, and did not wait
}

func newWorld(t *testing.T, name string, c api.Config, shards int) *world {
	t.Helper()
	all, err := cluster.New(c, shards)
	if err != api.OK {
		t.Fatal(err)
	}
	return &world{t: t, name: name, config: c, shards: shards, c: all, logs: make([][]api.Entry, shards)}
}

// small is a world of one shard of three nodes, with leases of 100 and much room.
func small(t *testing.T) *world {
	t.Helper()
	return newWorld(t, "", api.Config{Nodes: 3, Lease: 100, Drift: 100, Segment: 1 << 12, Disk: 1 << 20}, 1)
}

func (w *world) fail(format string, args ...any) {
	w.t.Helper()
	w.t.Fatalf("%s, step %d: %s", w.name, w.c.Steps(), fmt.Sprintf(format, args...))
}

func at(kind, shard, id int) api.Step {
	return api.Step{Kind: kind, Shard: shard, Node: id}
}

func packet(kind, shard, place int) api.Step {
	return api.Step{Kind: kind, Shard: shard, At: place}
}

// do does a step, and holds the log of its node against all that were there ever.
func (w *world) do(s api.Step) api.Errno {
	w.t.Helper()
	w.script = append(w.script, s)
	err := w.c.Do(s)
	if s.Kind == api.StepFlush || s.Kind == api.StepRestart {
		w.lookAtLog(s.Shard, s.Node)
	}
	return err
}

func (w *world) lookAtLog(shard, id int) {
	w.t.Helper()
	log := w.c.Node(shard, id).Entries()
	if n, agree := audit.Agree(w.logs[shard], log); !agree {
		w.fail("node %d of shard %d has %+v, another one had %+v: they agree in %d", id, shard, log, w.logs[shard], n)
	}
	if len(log) > len(w.logs[shard]) {
		w.logs[shard] = log
	}
}

func (w *world) must(steps ...api.Step) {
	w.t.Helper()
	for _, s := range steps {
		if err := w.do(s); err != api.OK {
			w.fail("Do(%+v): %d", s, err)
		}
	}
}

// call asks a node, and answers the call's id, 0, if it was not taken.
func (w *world) call(id int, x api.Call) int {
	w.t.Helper()
	w.ids++
	x.Id = w.ids
	shard := router.Shard(x.Cart, w.shards)
	if err := w.do(api.Step{Kind: api.StepCall, Node: id, Call: x}); err == api.OK != w.c.Up(shard, id) {
		w.fail("Do(%+v): %d", x, err)
	} else if err != api.OK {
		return 0
	}
	return x.Id
}

func (w *world) add(id int, cart, sku string, qty int) int {
	w.t.Helper()
	return w.call(id, api.Call{Kind: api.CallUpdate, Cart: cart, Sku: sku, Qty: qty})
}

func (w *world) read(id int, cart string) int {
	w.t.Helper()
	return w.call(id, api.Call{Kind: api.CallRead, Cart: cart})
}

func (w *world) checkout(id int, cart, token string) int {
	w.t.Helper()
	return w.call(id, api.Call{Kind: api.CallCheckout, Cart: cart, Token: token})
}

func (w *world) status(id int, cart, token string) int {
	w.t.Helper()
	return w.call(id, api.Call{Kind: api.CallStatus, Cart: cart, Token: token})
}

// told is what a call was told, and whether it was.
func (w *world) told(call int) (api.Answer, bool) {
	l := w.c.Told()
	at := slices.IndexFunc(l, func(x api.Told) bool { return x.Answer.Id == call })
	if at < 0 {
		return api.Answer{}, false
	}
	return l[at].Answer, true
}

// answer is what a call was told that was told something.
func (w *world) answer(call int) api.Answer {
	w.t.Helper()
	a, is := w.told(call)
	if !is {
		w.fail("call %d was told nothing", call)
	}
	return a
}

// leaders are those nodes of a shard that lead, or believe so.
func (w *world) leaders(shard int) []int {
	var l []int
	for id := range w.config.Nodes {
		if w.c.Node(shard, id).Phase() == api.PhaseLeading {
			l = append(l, id)
		}
	}
	return l
}

func (w *world) flushAll(shard int) {
	w.t.Helper()
	for id := range w.config.Nodes {
		if w.c.Up(shard, id) {
			w.must(at(api.StepFlush, shard, id))
		}
	}
}

// settle has all that is sent come, till nothing is sent any more.
func (w *world) settle(shard int) {
	w.t.Helper()
	for range 100 {
		w.flushAll(shard)
		if len(w.c.Packets(shard)) == 0 {
			return
		}
		for len(w.c.Packets(shard)) > 0 {
			w.must(packet(api.StepDeliver, shard, 0))
		}
	}
	w.fail("it is never quiet")
}

// lead makes a node lead.
func (w *world) lead(shard, id int) {
	w.t.Helper()
	w.must(at(api.StepElect, shard, id))
	w.settle(shard)
	if w.c.Node(shard, id).Phase() != api.PhaseLeading {
		w.fail("node %d does not lead", id)
	}
}

// speak has all nodes that are up tell one another what they have.
func (w *world) speak(shard int) {
	w.t.Helper()
	for range 2 {
		for from := range w.config.Nodes {
			for to := range w.config.Nodes {
				if w.c.Up(shard, from) {
					w.must(api.Step{Kind: api.StepGossip, Shard: shard, Node: from, At: to})
				}
			}
		}
		w.settle(shard)
	}
}

// tick has the time go on in a shard, and all clocks with it.
func (w *world) tick(shard, time int) {
	w.t.Helper()
	w.must(api.Step{Kind: api.StepTick, Shard: shard, Time: time, On: slices.Repeat([]int{time}, w.config.Nodes)})
}

// crash has the power go at a node, so that nothing lasts that is not sure.
func (w *world) crash(shard int, ids ...int) {
	w.t.Helper()
	for _, id := range ids {
		w.must(at(api.StepCrash, shard, id))
	}
}

func (w *world) restart(shard int, ids ...int) {
	w.t.Helper()
	for _, id := range ids {
		w.must(at(api.StepRestart, shard, id))
	}
}

// carts are all that there may be in a world.
func carts() []string { return []string{"c", "d", "e", "f", "g"} }
