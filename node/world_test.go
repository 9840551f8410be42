package node_test

import (
	"fmt"
	"math/rand"
	"os"
	"slices"
	"strconv"
	"testing"

	"pannier/api"
	"pannier/clock"
	"pannier/cut"
	"pannier/disk"
	"pannier/model"
	"pannier/node"
	"pannier/seal"
	"pannier/vv"
)

// world is nodes with their disks and clocks, messages on their way, and all that was told.
type world struct {
	t      *testing.T
	seed   int64
	rng    *rand.Rand
	config api.Config
	nodes  []*node.Node // nil: down
	disks  []*disk.Disk
	clocks *clock.Clocks
	bag    []api.Msg
	step   int
	lastId int
	made   map[int]made // by the calls' ids
	told   map[int]api.Answer
	ended  map[int]int       // at which step a call was told
	log    map[int]api.Entry // what any node ever had in its prefix
	model  *model.Model      // of what is sure
	dots   []map[api.Dot]api.Event
	votes  []map[int]api.Ballot // of each node those that it told of, by slots
	proms  []api.Ballot         // of each node what it told to have promised
	limit  int                  // of updates
	calm   bool                 // elections are rare
}

// made is a call that was taken, and which updates of its cart the node had told by then.
type made struct {
	call  api.Call
	node  int
	begin int
	had   []api.Dot
}

func newWorld(t *testing.T, seed int64, c api.Config) *world {
	w := &world{t: t, seed: seed, rng: rand.New(rand.NewSource(seed)), config: c, made: map[int]made{}, told: map[int]api.Answer{}, ended: map[int]int{}, log: map[int]api.Entry{}, model: model.New(), limit: 1 << 30, calm: seed%3 > 0}
	w.clocks, _ = clock.New(c.Nodes)
	for id := range c.Nodes {
		w.disks = append(w.disks, newDisk(t, c.Disk))
		w.nodes = append(w.nodes, start(t, c, id, w.disks[id], 0))
		w.dots = append(w.dots, map[api.Dot]api.Event{})
		w.votes = append(w.votes, map[int]api.Ballot{})
		w.proms = append(w.proms, api.Ballot{})
	}
	return w
}

func (w *world) fail(format string, args ...any) {
	w.t.Helper()
	w.t.Fatalf("seed %d, step %d: %s", w.seed, w.step, fmt.Sprintf(format, args...))
}

// any answers a node that is up, nil, if there is none.
func (w *world) any() (*node.Node, int) {
	id := w.rng.Intn(len(w.nodes))
	return w.nodes[id], id
}

func (w *world) call(n *node.Node, id int) {
	carts, skus := []string{"c", "d"}, []string{"tea", "jam"}
	w.lastId++
	c := api.Call{Id: w.lastId, Kind: []int{1, 1, 1, 2, 3, 3, 4}[w.rng.Intn(7)], Cart: carts[w.rng.Intn(2)], Sku: skus[w.rng.Intn(2)], Qty: w.rng.Intn(4), Clears: w.rng.Intn(4) == 0, Token: fmt.Sprint("t", w.rng.Intn(8))}
	if c.Kind == api.CallUpdate {
		if w.limit--; w.limit < 0 {
			return
		}
	}
	if at := w.leader(); c.Kind >= api.CallCheckout && at >= 0 && w.rng.Intn(4) > 0 {
		n, id = w.nodes[at], at
	}
	w.callOf(n, id, c)
}

// leader answers a node that leads, -1, if there is none.
func (w *world) leader() int {
	return slices.IndexFunc(w.nodes, func(n *node.Node) bool { return n.Phase() == api.PhaseLeading })
}

func (w *world) callOf(n *node.Node, id int, c api.Call) {
	m := made{call: c, node: id, begin: w.step}
	for d, e := range w.dots[id] {
		if e.Cart == c.Cart {
			m.had = append(m.had, d)
		}
	}
	w.made[c.Id] = m
	if err := n.Call(c); err != api.OK {
		w.fail("Call: %d", err)
	}
}

// flush looks at all that leaves.
func (w *world) flush(n *node.Node, id int) {
	out, err := n.Flush()
	if err != api.OK {
		if err != api.ErrOff || len(out) != 0 {
			w.fail("Flush: %v, %d", out, err)
		}
		return
	}
	w.learnEvents(n)
	w.learnEntries(n)
	for _, o := range out {
		if o.IsAnswer {
			w.answered(id, o.Answer)
			continue
		}
		w.sent(id, o.Msg)
	}
}

// learnEvents takes all events of a node, all of which are sure.
func (w *world) learnEvents(n *node.Node) {
	for _, e := range n.Events() {
		if err := w.model.Event(e); err != api.OK && err != api.ErrTwice {
			w.fail("%v: %d", e, err)
		}
	}
}

// learnEntries holds all entries of a node against what any node had there.
func (w *world) learnEntries(n *node.Node) {
	for slot, e := range n.Entries() {
		if before, is := w.log[slot]; is && !equalEntries(before, e) {
			w.fail("slot %d: %v, and %v", slot, before, e)
		}
		w.log[slot] = e
	}
}

func (w *world) sent(id int, m api.Msg) {
	if m.From != id || m.To == id || m.To < 0 || m.To >= w.config.Nodes {
		w.fail("node %d sends %v", id, m)
	}
	switch m.Kind {
	case api.MsgPromise:
		w.proms[id] = m.Ballot
	case api.MsgAccepted:
		w.votes[id][m.Slot] = m.Ballot
	}
	w.bag = append(w.bag, m)
}

func (w *world) answered(id int, a api.Answer) {
	m, is := w.made[a.Id]
	if _, twice := w.told[a.Id]; !is || twice || m.node != id {
		w.fail("node %d tells %v", id, a)
	}
	w.told[a.Id], w.ended[a.Id] = a, w.step
	for w.model.Entries() < a.Learned {
		e, is := w.log[w.model.Entries()]
		if !is {
			w.fail("nobody learned what %v was told by", a)
		}
		w.model.Entry(e)
	}
	if a.Err != api.OK {
		if a.Dot != (api.Dot{}) || a.Lines != nil || a.Known || a.Order.Id != 0 {
			w.fail("beside an error: %v", a)
		}
		return
	}
	switch m.call.Kind {
	case api.CallUpdate:
		if a.Dot.Origin != id || !vv.Has(a.Applied, a.Dot) {
			w.fail("an update of %d: %v", id, a)
		}
		w.dots[id][a.Dot] = api.Event{Cart: m.call.Cart, Sku: m.call.Sku, Qty: m.call.Qty, Clears: m.call.Clears}
	case api.CallRead:
		if lines := w.model.Cart(m.call.Cart, a.Applied, a.Learned); !same(lines, a.Lines) {
			w.fail("a read of %s: %v, not %v", m.call.Cart, a, lines)
		}
		for _, d := range m.had {
			if !vv.Has(a.Applied, d) {
				w.fail("a read without %v, which was told", d)
			}
		}
	case api.CallCheckout:
		w.checkedOut(m, a)
	case api.CallStatus:
		o, known := w.model.Token(m.call.Token, a.Learned)
		if known != a.Known || !same(o, a.Order) || a.Lines != nil {
			w.fail("a status: %v, not %v, %v", a, o, known)
		}
	}
}

func (w *world) checkedOut(m made, a api.Answer) {
	o, known := w.model.Token(m.call.Token, a.Learned)
	if !known || !a.Known || !same(o, a.Order) || !vv.Below(o.Cut, a.Applied) {
		w.fail("a checkout: %v, not %v, %v", a, o, known)
	}
	if lines, _ := w.model.Receipt(o.Id); !same(lines, a.Lines) {
		w.fail("the lines of %v: %v, not %v", o, a.Lines, lines)
	}
}

// crash tears off any end.
func (w *world) crash(id int) {
	var keep []api.Torn
	for _, f := range w.disks[id].Files() {
		if unsure := len(f.Bytes) - f.Synced; w.rng.Intn(3) > 0 {
			keep = append(keep, api.Torn{Name: f.Name, Bytes: w.rng.Intn(unsure + 1)})
		}
	}
	if err := w.disks[id].Crash(keep); err != api.OK {
		w.fail("Crash: %d", err)
	}
	w.nodes[id] = nil
}

// restart looks whether all that the node told is there.
func (w *world) restart(id int) {
	n, err := node.New(w.config, id, w.disks[id], w.clocks.Now(id))
	if err != api.OK {
		w.fail("New: %d", err)
	}
	w.nodes[id] = n
	w.look(id)
}

// look looks at what must hold at any moment.
func (w *world) look(id int) {
	n := w.nodes[id]
	w.learnEntries(n)
	applied := n.Applied()
	for d := range w.dots[id] {
		if !vv.Has(applied, d) {
			w.fail("%v, which node %d told, is gone", d, id)
		}
	}
	if b := n.Promised(); b.Round < w.proms[id].Round || b.Round == w.proms[id].Round && b.Node < w.proms[id].Node {
		w.fail("node %d told %v, and has promised %v", id, w.proms[id], b)
	}
	last := map[int]api.Ballot{}
	for _, v := range n.Votes() {
		last[v.Slot] = v.Ballot
	}
	for slot, b := range w.votes[id] {
		if l := last[slot]; l.Round < b.Round || l.Round == b.Round && l.Node < b.Node {
			w.fail("node %d told its vote in %d, %v, and has %v", id, slot, b, l)
		}
	}
	if w.rng.Intn(8) == 0 {
		again, err := node.New(w.config, id, all(w.disks[id]), 0)
		if err != api.OK {
			w.fail("New of all: %d", err)
		}
		if state(again) != state(n) {
			w.fail("node %d has\n%s\nits records make\n%s", id, state(n), state(again))
		}
	}
}

// do does any step.
func (w *world) do(crashes bool) {
	w.step++
	n, id := w.any()
	if n == nil {
		if w.rng.Intn(6) == 0 {
			w.restart(id)
		}
		return
	}
	switch x := w.rng.Intn(100); {
	case x < 12:
		w.call(n, id)
	case x < 50:
		w.deliver(w.rng.Intn(20))
	case x < 75:
		w.flush(n, id)
	case x < 80:
		w.tick(1+w.rng.Intn(w.config.Lease), nil)
	case x < 83:
		if !w.calm || w.leader() < 0 || w.rng.Intn(20) == 0 {
			n.Elect()
		}
	case x < 88:
		n.Renew()
	case x < 92:
		n.Gossip(w.rng.Intn(w.config.Nodes+2) - 1)
	case x < 95:
		n.Again()
	case x < 96:
		n.Compact()
	case crashes && x < 98:
		w.crash(id)
	case crashes && x < 99:
		w.disks[id].Stop(w.rng.Intn(30))
	}
	if w.nodes[id] != nil {
		w.look(id)
	}
}

// deliver has any message come, be lost, or come twice.
func (w *world) deliver(luck int) {
	if len(w.bag) == 0 {
		return
	}
	at := w.rng.Intn(len(w.bag))
	m := w.bag[at]
	if luck != 0 {
		w.bag[at] = w.bag[len(w.bag)-1]
		w.bag = w.bag[:len(w.bag)-1]
	}
	if n := w.nodes[m.To]; n != nil && luck != 1 {
		n.On(m)
		w.look(m.To)
	}
}

// tick has all clocks go on, as far as the drift lets them.
func (w *world) tick(time int, on []int) {
	if on == nil {
		low, high := (time*(1000-w.config.Drift)+999)/1000, time*(1000+w.config.Drift)/1000
		for range w.config.Nodes {
			on = append(on, low+w.rng.Intn(high-low+1))
		}
	}
	if err := w.clocks.Tick(time, on); err != api.OK || !w.clocks.Keeps(w.config.Drift) {
		w.fail("Tick: %d", err)
	}
	for id, n := range w.nodes {
		n.Tick(w.clocks.Now(id))
	}
}

// machine carries out all that anybody learned.
func (w *world) machine() *seal.Machine {
	m := seal.New()
	for slot := 0; ; slot++ {
		e, is := w.log[slot]
		if !is {
			return m
		}
		m.Do(e)
	}
}

// wantOrders looks whether orders have what was told at a node ahead of a checkout there, each update once.
func (w *world) wantOrders() {
	m := w.machine()
	seals := m.Seals()
	if at, err := cut.Check(seals); err != api.OK {
		w.fail("seal %d does not follow", at)
	}
	events := map[api.Dot]api.Event{}
	for _, e := range w.model.Events() {
		events[e.Dot] = e
	}
	for id, a := range w.told {
		if !a.Known || w.made[id].call.Kind != api.CallCheckout {
			continue
		}
		ok := false
		for _, c := range w.made {
			if c.call.Kind == api.CallCheckout && c.call.Token == a.Order.Token && c.call.Cart == a.Order.Cart {
				ok = ok || !slices.ContainsFunc(c.had, func(d api.Dot) bool {
					epoch, is := cut.Belongs(events[d], seals)
					return !is || epoch > a.Order.Epoch
				})
			}
		}
		if !ok {
			w.fail("order %v lacks what was told", a.Order)
		}
	}
}

// wantRow looks whether checkouts and statuses, as they were told, can be put in one row (25).
func (w *world) wantRow() {
	orders := w.machine().Orders()
	first, last := make([]int, len(orders)), make([]int, len(orders))
	for i, o := range orders {
		first[i], last[i] = api.MaxTime, api.MaxTime
		for id, m := range w.made {
			a, is := w.told[id]
			if m.call.Token != o.Token || m.call.Kind < api.CallCheckout || a.Err != api.OK {
				continue
			}
			if m.call.Kind == api.CallCheckout {
				first[i] = min(first[i], m.begin)
			}
			if is && a.Known {
				if a.Order.Id != o.Id {
					w.fail("%v was told %v", m, a)
				}
				last[i] = min(last[i], w.ended[id])
			}
		}
		for id, m := range w.made {
			if a, is := w.told[id]; is && m.call.Token == o.Token && m.call.Kind == api.CallStatus && a.Err == api.OK && !a.Known {
				first[i] = max(first[i], m.begin)
			}
		}
	}
	for i := range orders {
		for j := i; j < len(orders); j++ {
			if first[i] > last[j] {
				w.fail("order %d comes behind step %d, order %d ahead of step %d", i+1, first[i], j+1, last[j])
			}
		}
	}
}

// goOn has all go well at last: a checkout is told, and all read the same.
func (w *world) goOn() {
	for id, n := range w.nodes {
		w.disks[id].Stop(-1)
		if n == nil || w.disks[id].Off() {
			w.crash(id)
			w.restart(id)
		}
	}
	told := false
	for try := 0; !told; try++ {
		if try > 20 {
			w.fail("a checkout is not told")
		}
		// Time goes by: also those of old are over who were granted a lease by a message that came late.
		w.tick(2*w.config.Lease+1, slices.Repeat([]int{2*w.config.Lease + 1}, w.config.Nodes))
		told = w.tryAgain()
	}
	w.rounds(20)
	for id, n := range w.nodes {
		if !slices.Equal(n.Applied(), w.nodes[0].Applied()) || len(n.Entries()) != len(w.nodes[0].Entries()) {
			w.fail("node %d has %v, %d, not %v, %d", id, n.Applied(), len(n.Entries()), w.nodes[0].Applied(), len(w.nodes[0].Entries()))
		}
		for _, cart := range []string{"c", "d"} {
			if !same(n.Read(cart), w.nodes[0].Read(cart)) {
				w.fail("node %d reads %v, not %v", id, n.Read(cart), w.nodes[0].Read(cart))
			}
		}
	}
}

// tryAgain checks out at a node that leads, and answers whether that is told. Others may lead by and by, as
// they still ask for promises in greater ballots.
func (w *world) tryAgain() bool {
	at := w.leader()
	if at < 0 {
		w.nodes[w.rng.Intn(len(w.nodes))].Elect()
		w.rounds(4)
		return false
	}
	w.lastId++
	w.callOf(w.nodes[at], at, checkout(w.lastId, "c", "last"))
	w.rounds(10)
	return w.told[w.lastId].Known
}

// rounds has all that is sent come, and all nodes speak with one another.
func (w *world) rounds(count int) {
	for range count {
		w.step++
		for id, n := range w.nodes {
			n.Again()
			for to := range w.nodes {
				n.Gossip(to)
			}
			w.flush(n, id)
		}
		for len(w.bag) > 0 {
			w.deliver(2)
		}
		for id, n := range w.nodes {
			w.flush(n, id)
		}
	}
}

// finish looks at all that was told.
func (w *world) finish() {
	w.wantOrders()
	w.wantRow()
}

// sums counts what happened in worlds, so that none is told to have gone well in which nothing happened.
type sums struct {
	orders, statuses, known, reads, errors int
}

func (s *sums) add(w *world) {
	s.orders += len(w.machine().Orders())
	for id, a := range w.told {
		switch kind := w.made[id].call.Kind; {
		case a.Err != api.OK:
			s.errors++
		case kind == api.CallStatus && a.Known:
			s.known++
		case kind == api.CallStatus:
			s.statuses++
		case kind == api.CallRead:
			s.reads++
		}
	}
}

func (s sums) wantSome(t *testing.T) {
	t.Helper()
	t.Logf("%+v", s)
	if least := int(worlds()) / 10; s.orders < least || s.statuses < least || s.known < least || s.reads < least || s.errors < least {
		t.Error("too little happened")
	}
}

// worlds is how many of each kind are tried: more, if WORLDS says so.
func worlds() int64 {
	if n, err := strconv.Atoi(os.Getenv("WORLDS")); err == nil {
		return int64(n)
	}
	return 100
}

// TestWorlds: whatever happens, what was told holds; and when all goes well at last, it goes on.
func TestWorlds(t *testing.T) {
	var s sums
	for seed := range worlds() {
		rng := rand.New(rand.NewSource(seed))
		c := api.Config{Nodes: 1 + rng.Intn(5), Lease: 1 + rng.Intn(200), Drift: rng.Intn(3) * 100, Segment: 600 + rng.Intn(2000), Disk: 1 << 20}
		w := newWorld(t, seed, c)
		w.limit = 15 // no more than a piece has
		for range 1500 {
			w.do(true)
		}
		w.finish()
		w.goOn()
		w.finish()
		s.add(w)
	}
	s.wantSome(t)
}

// TestFullWorlds: on disks that are full now and then nothing else changes.
func TestFullWorlds(t *testing.T) {
	var s sums
	for seed := range worlds() {
		rng := rand.New(rand.NewSource(seed))
		c := api.Config{Nodes: 1 + rng.Intn(4), Lease: 50 + rng.Intn(200), Drift: rng.Intn(3) * 100, Segment: 100 + rng.Intn(1000), Disk: 300 + rng.Intn(4000)}
		w := newWorld(t, seed, c)
		for range 2000 {
			w.do(seed%2 == 0)
		}
		w.finish()
		s.add(w)
	}
	s.wantSome(t)
}
