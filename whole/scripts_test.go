package whole_test

import (
	"fmt"
	"math/rand"
	"os"
	"slices"
	"strconv"
	"testing"

	"pannier/api"
	"pannier/audit"
	"pannier/router"
)

// play is a world in which anything happens.
type play struct {
	*world
	rng     *rand.Rand
	off     map[[2]int]bool // whose disks may be off
	cut     []int           // of each shard a node that is cut off, or none
	clears  bool
	busy    bool // many updates come
	loss    int  // of a hundred packets so many are lost, and so many come twice
	rarely  int  // one in so many times the power goes
	probing bool
	happened
}

// happened counts, so that no script is told to have gone well in which nothing happened.
type happened struct {
	orders, receipts, known, none, leases, rivals, errors, lost, doubled, crashes, twice, sold int
}

// scripts is how many of each kind are tried: more, if SCRIPTS says so.
func scripts() int64 {
	if n, err := strconv.Atoi(os.Getenv("SCRIPTS")); err == nil {
		return int64(n)
	}
	return 40
}

// anyConfig is one of so many nodes or more, with much room.
func anyConfig(rng *rand.Rand, nodes int) api.Config {
	return api.Config{Nodes: nodes + rng.Intn(6-nodes), Lease: 5 + rng.Intn(150), Drift: rng.Intn(4) * 100, Segment: 500 + rng.Intn(3000), Disk: 1 << 20}
}

func newPlay(t *testing.T, seed int64, config func(rng *rand.Rand) api.Config) *play {
	t.Helper()
	rng := rand.New(rand.NewSource(seed))
	c := config(rng)
	p := &play{world: newWorld(t, fmt.Sprint("seed ", seed), c, 1+rng.Intn(2)), rng: rng, off: map[[2]int]bool{}, clears: true, loss: 4, rarely: 1 + int(seed%4)*10}
	for range p.shards {
		p.cut = append(p.cut, -1)
	}
	return p
}

// ask has a client ask for anything; checkouts and statuses mostly of those who lead.
func (p *play) ask() {
	x := api.Call{Kind: 1 + p.rng.Intn(4), Cart: carts()[p.rng.Intn(2+p.shards)], Sku: []string{"tea", "jam"}[p.rng.Intn(2)], Qty: p.rng.Intn(4), Clears: p.clears && p.rng.Intn(4) == 0}
	x.Token = fmt.Sprint("t", p.c.Steps()/200+p.rng.Intn(3))
	if p.busy && p.rng.Intn(3) > 0 {
		x.Kind = api.CallUpdate
	}
	shard, id := router.Shard(x.Cart, p.shards), p.rng.Intn(p.config.Nodes)
	if l := p.leaders(shard); x.Kind >= api.CallCheckout && len(l) > 0 && p.rng.Intn(4) > 0 {
		id = l[p.rng.Intn(len(l))]
	}
	p.call(id, x)
}

// probe asks all who lead in a shard for a status, at one moment: of the last token that anybody knows to have
// an order.
func (p *play) probe(shard int) {
	token := "none"
	for _, e := range p.logs[shard] {
		if !e.Noop {
			token = e.Seal.Token
		}
	}
	var ids []int
	l := p.leaders(shard)
	for _, id := range l {
		waits := p.c.Node(shard, id).Waits()
		call := p.status(id, p.cartOf(shard), token)
		if p.c.Node(shard, id).Waits() == waits {
			ids = append(ids, call)
		}
	}
	if len(l) > 1 {
		p.rivals++
	}
	p.probes = append(p.probes, ids)
}

// cartOf is one of the carts of that shard.
func (p *play) cartOf(shard int) string {
	for i := 0; ; i++ {
		if name := fmt.Sprint("x", i); router.Shard(name, p.shards) == shard {
			return name
		}
	}
}

// packet has a packet come, be lost, or be there twice. None comes of a node, or to one, that is cut off.
func (p *play) packet(shard int) {
	l := p.c.Packets(shard)
	if len(l) == 0 {
		return
	}
	place := p.rng.Intn(len(l))
	if x := l[place]; x.From == p.cut[shard] || x.To == p.cut[shard] {
		if p.rng.Intn(4) > 0 { // else it may come later
			p.must(packet(api.StepLose, shard, place))
		}
		return
	}
	switch x := p.rng.Intn(100); {
	case x < p.loss:
		p.must(packet(api.StepLose, shard, place))
		p.lost++
	case x < 2*p.loss:
		p.must(packet(api.StepTwice, shard, place))
		p.doubled++
	default:
		p.must(packet(api.StepDeliver, shard, place))
	}
}

// goTime has the clocks of a shard go on, as far apart as the drift lets them: where leases are looked at, that
// of a node that is cut off as little as it may, and the others as much.
func (p *play) goTime(shard, time int) {
	low, high := (time*(1000-p.config.Drift)+999)/1000, time*(1000+p.config.Drift)/1000
	var on []int
	for id := range p.config.Nodes {
		switch {
		case p.probing && id == p.cut[shard]:
			on = append(on, low)
		case p.probing && p.cut[shard] >= 0:
			on = append(on, high)
		default:
			on = append(on, low+p.rng.Intn(high-low+1))
		}
	}
	p.must(api.Step{Kind: api.StepTick, Shard: shard, Time: time, On: on})
}

// powerGoes, and any beginning of a file's unsure bytes lasts.
func (p *play) powerGoes(shard, id int) {
	s := at(api.StepCrash, shard, id)
	s.Keep = []api.Torn{{Name: fmt.Sprint("n-log-", 1+p.rng.Intn(3)), Bytes: 1 + p.rng.Intn(100)}}
	for p.do(s) != api.OK {
		if s.Keep[0].Bytes /= 2; s.Keep[0].Bytes == 0 {
			s.Keep = nil
		}
	}
	p.off[[2]int{shard, id}] = false
	p.crashes++
}

// step does any step.
func (p *play) step() {
	shard, id := p.rng.Intn(p.shards), p.rng.Intn(p.config.Nodes)
	if !p.c.Up(shard, id) {
		if p.rng.Intn(8) == 0 {
			p.must(at(api.StepRestart, shard, id))
		}
		return
	}
	if p.probing && p.rng.Intn(10) == 0 {
		p.probe(shard)
	}
	switch x := p.rng.Intn(100); {
	case x < 10:
		p.ask()
	case x < 12:
		p.probe(shard)
	case x < 50:
		for range 1 + p.rng.Intn(6) {
			p.packet(shard)
		}
	case x < 76:
		p.flushSome(shard)
	case x < 80:
		time := p.config.Lease
		if p.probing { // so that much happens till a lease is over
			time = 1 + time/5
		}
		p.goTime(shard, 1+p.rng.Intn(time))
	case x < 83:
		// Where all ask all the time, nobody leads.
		if l := p.leaders(shard); id != p.cut[shard] && !slices.ContainsFunc(l, func(id int) bool { return id != p.cut[shard] }) || p.rng.Intn(20) == 0 {
			p.must(at(api.StepElect, shard, id))
		}
	case x < 88:
		for _, id := range p.leaders(shard) {
			p.must(at(api.StepRenew, shard, id))
		}
	case x < 92:
		p.must(api.Step{Kind: api.StepGossip, Shard: shard, Node: id, At: p.rng.Intn(p.config.Nodes)})
	case x < 95:
		p.must(at(api.StepAgain, shard, id))
	case x < 96:
		p.do(at(api.StepCompact, shard, id))
	case x < 97:
		if p.rng.Intn(2) == 0 {
			p.cutSomebodyOff(shard)
		}
	case p.rng.Intn(p.rarely) > 0:
	case x < 99:
		p.powerGoes(shard, id)
	default:
		p.must(api.Step{Kind: api.StepStop, Shard: shard, Node: id, At: p.rng.Intn(30)})
		p.off[[2]int{shard, id}] = true
	}
}

// cutSomebodyOff, often one that leads, or nobody any more.
func (p *play) cutSomebodyOff(shard int) {
	p.cut[shard] = -1
	if l := p.leaders(shard); len(l) > 0 && p.rng.Intn(3) > 0 {
		p.cut[shard] = l[p.rng.Intn(len(l))]
	}
}

// flushSome has nodes let out what they hold back. Where a disk is off, the power goes by and by.
func (p *play) flushSome(shard int) {
	for id := range p.config.Nodes {
		if !p.c.Up(shard, id) || p.rng.Intn(3) == 0 {
			continue
		}
		if err := p.do(at(api.StepFlush, shard, id)); err != api.OK && p.rng.Intn(3) == 0 {
			p.powerGoes(shard, id)
		}
	}
}

// rise has all nodes be up, on disks that are on.
func (p *play) rise() {
	for shard := range p.shards {
		for id := range p.config.Nodes {
			if p.off[[2]int{shard, id}] && p.c.Up(shard, id) {
				p.powerGoes(shard, id)
			}
			if !p.c.Up(shard, id) {
				p.must(at(api.StepRestart, shard, id))
			}
		}
	}
}

// rounds has all that is sent come, and all nodes speak with one another.
func (p *play) rounds(shard, count int) {
	for range count {
		for id := range p.config.Nodes {
			p.must(at(api.StepAgain, shard, id))
			for to := range p.config.Nodes {
				p.must(api.Step{Kind: api.StepGossip, Shard: shard, Node: id, At: to})
			}
			p.must(at(api.StepFlush, shard, id))
		}
		for count := len(p.c.Packets(shard)); count > 0; count-- {
			p.must(packet(api.StepDeliver, shard, p.rng.Intn(count)))
		}
		p.flushAll(shard)
	}
}

// goOn: P5: when all are up, and what is sent comes, a checkout that is tried again is told an order, and carts
// become equal.
func (p *play) goOn() {
	for shard := range p.shards {
		for try := 0; !p.tried(shard); try++ {
			if try > 20 {
				p.fail("a checkout in shard %d is told nothing", shard)
			}
			p.goTime(shard, 2*p.config.Lease*1000/(1000-p.config.Drift)+1)
		}
		p.rounds(shard, 20)
		p.wantAlike(shard)
	}
}

// tried asks whether a checkout that is tried again is told an order.
func (p *play) tried(shard int) bool {
	l := p.leaders(shard)
	if len(l) == 0 {
		p.must(at(api.StepElect, shard, p.rng.Intn(p.config.Nodes)))
		p.rounds(shard, 4)
		return false
	}
	call := p.checkout(l[0], p.cartOf(shard), "last")
	p.rounds(shard, 6)
	a, is := p.told(call)
	return is && a.Err == api.OK && a.Known
}

// again: P6: the same script does the same.
func (p *play) again() {
	other := newWorld(p.t, p.name, p.config, p.shards)
	for _, s := range p.script {
		other.do(s)
	}
	if a, b := p.picture(), other.picture(); a != b {
		p.fail("the same script makes\n%s\nnot\n%s", b, a)
	}
}

// count tells what happened.
func (p *play) count() happened {
	told := p.toldWell()
	for _, ids := range p.probes {
		p.leases += len(slices.DeleteFunc(slices.Clone(ids), func(id int) bool { return !told[id] }))
	}
	for shard := range p.shards {
		m := p.model(shard)
		p.orders += len(m.Orders())
		p.twice += len(audit.Twice(m.Events(), m.Seals(m.Entries())))
		p.sold += len(audit.Sales(m))
		for _, a := range p.calls(shard) {
			switch {
			case a.told == nil:
			case a.told.Answer.Err != api.OK:
				p.errors++
			case a.Call.Kind == api.CallCheckout:
				p.receipts++
			case a.Call.Kind == api.CallStatus && a.told.Answer.Known:
				p.known++
			case a.Call.Kind == api.CallStatus:
				p.none++
			}
		}
	}
	return p.happened
}

func (h *happened) add(x happened) {
	h.orders, h.receipts, h.known, h.none = h.orders+x.orders, h.receipts+x.receipts, h.known+x.known, h.none+x.none
	h.leases, h.rivals, h.errors = h.leases+x.leases, h.rivals+x.rivals, h.errors+x.errors
	h.lost, h.doubled, h.crashes = h.lost+x.lost, h.doubled+x.doubled, h.crashes+x.crashes
	h.twice, h.sold = h.twice+x.twice, h.sold+x.sold
}

// kind is a kind of scripts: of which configs, how many steps, what is set as they begin, and what happens when
// they are over.
type kind struct {
	config     func(rng *rand.Rand) api.Config
	steps      int
	begin, end func(p *play)
}

// usual are scripts of any nodes, after which it goes on.
func usual() kind {
	return kind{
		config: func(rng *rand.Rand) api.Config { return anyConfig(rng, 1) },
		steps:  1500,
		begin:  func(*play) {},
		end:    (*play).goOn,
	}
}

// plays has many scripts happen, and be looked at: as they end, and when all has gone well for a while.
func plays(t *testing.T, k kind) happened {
	t.Helper()
	t.Parallel()
	var all happened
	for seed := range scripts() {
		p := newPlay(t, seed, k.config)
		k.begin(p)
		for range k.steps {
			p.step()
		}
		p.rise()
		p.look()
		k.end(p)
		p.look()
		if seed%5 == 0 {
			p.again()
		}
		all.add(p.count())
	}
	t.Logf("%+v", all)
	least := int(scripts()) / 4
	for _, n := range []int{all.orders, all.receipts, all.known, all.none, all.leases, all.errors, all.lost, all.doubled, all.crashes, all.twice, all.sold} {
		if n < least {
			t.Fatalf("too little happened: %+v", all)
		}
	}
	return all
}

func TestScripts(t *testing.T) {
	plays(t, usual())
}

// TestScriptsOfAdditions: all that was added is sold or left.
func TestScriptsOfAdditions(t *testing.T) {
	k := usual()
	k.begin = func(p *play) { p.clears = false }
	plays(t, k)
}

// TestScriptsOfManyUpdates: nodes miss more than a piece of them.
func TestScriptsOfManyUpdates(t *testing.T) {
	k := usual()
	k.begin = func(p *play) { p.busy = true }
	plays(t, k)
}

// TestScriptsOfLosses: of ten packets three are lost, and three come twice.
func TestScriptsOfLosses(t *testing.T) {
	k := usual()
	k.steps = 2000
	k.begin = func(p *play) { p.loss = 30 }
	plays(t, k)
}

// TestScriptsOfFullDisks: where there is no room it need not go on, but what was told holds.
func TestScriptsOfFullDisks(t *testing.T) {
	k := usual()
	k.config = func(rng *rand.Rand) api.Config {
		c := anyConfig(rng, 1)
		c.Segment, c.Disk = 100+rng.Intn(1000), 500+rng.Intn(4000)
		return c
	}
	k.steps = 2000
	k.begin = func(p *play) { p.busy = true }
	k.end = func(*play) {}
	plays(t, k)
}

// TestScriptsOfLeases: leaders are cut off, and believe for a while that they still lead; they are asked often.
func TestScriptsOfLeases(t *testing.T) {
	k := usual()
	k.config = func(rng *rand.Rand) api.Config { return anyConfig(rng, 3) }
	k.begin = func(p *play) { p.probing, p.rarely = true, 50 }
	all := plays(t, k)
	if least := 5 * int(scripts()); all.rivals < least || all.leases < least {
		t.Errorf("too little happened: %+v", all)
	}
}
