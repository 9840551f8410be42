package cluster_test

import (
	"fmt"
	"math/rand"
	"slices"
	"testing"

	"pannier/api"
	"pannier/cluster"
	"pannier/model"
	"pannier/router"
	"pannier/seal"
	"pannier/vv"
)

// play is a cluster under a script that is made up as it goes on, and what is looked at meanwhile.
type play struct {
	t       *testing.T
	seed    int64
	rng     *rand.Rand
	config  api.Config
	shards  int
	c       *cluster.Cluster
	script  []api.Step
	stopped map[[2]int]bool // whose disks may be off
	clients []*client
	clears  bool
	busy    bool // many updates come
	wild    bool // clocks do not keep the drift
	calm    bool // elections are rare
	rarely  int  // one in so many times the power goes
	loss    int  // of a hundred packets so many are lost, and so many come twice

	calls  map[int]*asked // by their ids
	logs   []map[int]api.Entry
	models []*model.Model // of each shard, of all that is sure
	told   int            // how many answers were looked at
	had    map[[2]int]map[api.Dot]string
	sums   sums
}

// asked is a call that was taken, and what came of it.
type asked struct {
	api.Made
	lease bool      // it did not wait
	had   []api.Dot // the updates of its cart that its node had told by then
	told  *api.Told
}

// client tries again with the same token till it is told.
type client struct {
	session *router.Session
	cart    string
	waits   int // the id of its call, 0 if none is on its way
	kind    int // of the call that it tries again
}

func newPlay(t *testing.T, seed int64, c api.Config, shards int) *play {
	p := &play{t: t, seed: seed, rng: rand.New(rand.NewSource(seed)), config: c, shards: shards, stopped: map[[2]int]bool{}, calls: map[int]*asked{}, had: map[[2]int]map[api.Dot]string{}, clears: true, calm: seed%3 > 0, rarely: 1 + int(seed%4)*10, loss: 5}
	p.c = start(t, c, shards)
	for shard := range shards {
		p.logs, p.models = append(p.logs, map[int]api.Entry{}), append(p.models, model.New())
		for id := range c.Nodes {
			p.had[[2]int{shard, id}] = map[api.Dot]string{}
		}
	}
	for i := range 3 {
		s, err := router.New(i*7, c.Nodes)
		if err != api.OK {
			t.Fatal(err)
		}
		p.clients = append(p.clients, &client{session: s, cart: p.cart()})
	}
	return p
}

func (p *play) fail(format string, args ...any) {
	p.t.Helper()
	p.t.Fatalf("seed %d, step %d: %s", p.seed, p.c.Steps(), fmt.Sprintf(format, args...))
}

// cart is one of few.
func (p *play) cart() string {
	return []string{"c", "d", "e", "f"}[p.rng.Intn(1+p.shards)]
}

// do does a step, and looks at what came of it.
func (p *play) do(s api.Step) api.Errno {
	p.script = append(p.script, s)
	held := p.c.Node(s.Shard, s.Node).Held()
	err := p.c.Do(s)
	if s.Kind == api.StepFlush && err == api.OK && held > 0 {
		p.flushed(s.Shard, s.Node)
	}
	return err
}

// must does a step that is OK.
func (p *play) must(s api.Step) {
	p.t.Helper()
	if err := p.do(s); err != api.OK {
		p.fail("Do(%+v): %d", s, err)
	}
}

// leader answers a node of a shard that leads, -1, if there is none.
func (p *play) leader(shard int) int {
	for id := range p.config.Nodes {
		if p.c.Node(shard, id).Phase() == api.PhaseLeading {
			return id
		}
	}
	return -1
}

// call has a node be asked, if it is up, and answers the call's id, 0 if it was not taken.
func (p *play) call(id int, x api.Call) int {
	shard := router.Shard(x.Cart, p.shards)
	x.Id = len(p.calls) + 1
	waits := p.c.Node(shard, id).Waits()
	a := &asked{}
	for d, cart := range p.had[[2]int{shard, id}] {
		if cart == x.Cart {
			a.had = append(a.had, d)
		}
	}
	err := p.do(call(id, x))
	if p.c.Up(shard, id) != (err == api.OK) {
		p.fail("Do(%+v): %d", x, err)
	}
	if err != api.OK {
		return 0
	}
	made := p.c.Made()
	a.Made = made[len(made)-1]
	a.lease = x.Kind == api.CallStatus && p.c.Node(shard, id).Waits() == waits
	if !same(a.Made, api.Made{Step: p.c.Steps(), Shard: shard, Node: id, Call: x}) {
		p.fail("made: %+v of %+v", a.Made, x)
	}
	p.calls[x.Id] = a
	return x.Id
}

// anyCall is one of any client, with any token.
func (p *play) anyCall() {
	x := api.Call{Kind: []int{1, 1, 1, 2, 3, 3, 4, 4, 4, 4}[p.rng.Intn(10)], Cart: p.cart(), Sku: []string{"tea", "jam"}[p.rng.Intn(2)], Qty: p.rng.Intn(4), Clears: p.clears && p.rng.Intn(4) == 0, Token: fmt.Sprint("t", p.rng.Intn(6))}
	if p.busy && p.rng.Intn(3) > 0 {
		x.Kind = api.CallUpdate
	}
	id := p.rng.Intn(p.config.Nodes)
	if at := p.leader(router.Shard(x.Cart, p.shards)); x.Kind >= api.CallCheckout && at >= 0 && p.rng.Intn(4) > 0 {
		id = at
	}
	p.call(id, x)
}

// goAhead has a client ask, ask again elsewhere, or ask for something else.
func (p *play) goAhead(x *client) {
	s := x.session
	if x.waits > 0 {
		told := p.calls[x.waits].told
		switch {
		case told != nil && told.Answer.Err == api.OK:
			s.Done()
			x.kind = 0
		case told != nil || p.rng.Intn(4) == 0: // it waits no longer
			s.Fail()
			p.sums.again++
		default:
			return
		}
	}
	if x.kind == 0 {
		x.kind = 1 + p.rng.Intn(4)
		if x.kind == api.CallCheckout {
			s.Token()
			x.cart = p.cart()
		}
		if x.kind == api.CallStatus && s.Last() == "" {
			x.kind = api.CallRead
		}
	}
	x.waits = p.call(s.Target(), api.Call{Kind: x.kind, Cart: x.cart, Sku: "tea", Qty: 1, Token: s.Last()})
	if x.waits == 0 {
		s.Fail()
	}
}

// crash has the power go; of the last segments, or of a file that is being made, any beginning lasts that the
// disk takes.
func (p *play) crash(shard, id int) {
	for range p.rng.Intn(4) {
		name := "n-new"
		if p.rng.Intn(4) > 0 {
			name = fmt.Sprint("n-log-", 1+p.rng.Intn(3))
		}
		for bytes := p.rng.Intn(100); p.c.Up(shard, id) && bytes > 0; bytes /= 2 {
			p.do(in(shard, crash(id, api.Torn{Name: name, Bytes: bytes})))
		}
	}
	if p.c.Up(shard, id) {
		p.must(in(shard, crash(id)))
	} else {
		p.sums.torn++
	}
	p.stopped[[2]int{shard, id}] = false
	p.sums.crashes++
}

// look holds what a node has against what any node of its shard ever had.
func (p *play) look(shard, id int) {
	n := p.c.Node(shard, id)
	if n == nil {
		return
	}
	for slot, e := range n.Entries() {
		if before, is := p.logs[shard][slot]; is && !equalEntries(before, e) {
			p.fail("shard %d, slot %d: %+v, and %+v", shard, slot, before, e)
		}
		p.logs[shard][slot] = e
	}
	applied := n.Applied()
	for d := range p.had[[2]int{shard, id}] {
		if !vv.Has(applied, d) {
			p.fail("%v, which node %d of shard %d told, is gone", d, id, shard)
		}
	}
}

// step does any step.
func (p *play) step() {
	shard, id := p.rng.Intn(p.shards), p.rng.Intn(p.config.Nodes)
	node := func(kind int) api.Step { return in(shard, at(kind, id)) }
	if !p.c.Up(shard, id) {
		if p.rng.Intn(8) == 0 {
			p.must(node(api.StepRestart))
			p.look(shard, id)
		}
		return
	}
	switch x := p.rng.Intn(100); {
	case x < 6:
		p.anyCall()
	case x < 12:
		p.goAhead(p.clients[p.rng.Intn(len(p.clients))])
	case x < 50:
		p.packet(shard)
	case x < 75:
		switch err := p.do(node(api.StepFlush)); {
		case err == api.ErrOff && p.rng.Intn(3) == 0:
			p.crash(shard, id)
		case err != api.OK && err != api.ErrOff:
			p.fail("Flush: %d", err)
		}
	case x < 80:
		p.tick(shard, 1+p.rng.Intn(p.config.Lease))
	case x < 83:
		if !p.calm || p.leader(shard) < 0 || p.rng.Intn(20) == 0 {
			p.must(node(api.StepElect))
		}
	case x < 88:
		p.must(node(api.StepRenew))
	case x < 92:
		p.must(in(shard, gossip(id, p.rng.Intn(p.config.Nodes+2)-1)))
	case x < 95:
		p.must(node(api.StepAgain))
	case x < 96:
		p.do(node(api.StepCompact))
	case p.rng.Intn(p.rarely) > 0:
	case x < 98:
		p.crash(shard, id)
	case x < 99:
		p.must(in(shard, stop(id, p.rng.Intn(30))))
		p.stopped[[2]int{shard, id}] = true
	}
	p.look(shard, id)
}

// packet has any packet come, be lost, or be there twice.
func (p *play) packet(shard int) {
	l := p.c.Packets(shard)
	if len(l) == 0 {
		return
	}
	place := p.rng.Intn(len(l))
	switch x := p.rng.Intn(100); {
	case x < p.loss:
		p.must(in(shard, packet(api.StepLose, place)))
		p.sums.lost++
	case x < 2*p.loss:
		p.must(in(shard, packet(api.StepTwice, place)))
		p.sums.twice++
	default:
		p.must(in(shard, packet(api.StepDeliver, place)))
		p.look(shard, l[place].To)
	}
}

// tick has the clocks of a shard go on, as far as the drift lets them, unless they are wild.
func (p *play) tick(shard, time int) {
	low, high := (time*(1000-p.config.Drift)+999)/1000, time*(1000+p.config.Drift)/1000
	if p.wild {
		low, high = 0, 3*time
	}
	var on []int
	for range p.config.Nodes {
		on = append(on, low+p.rng.Intn(high-low+1))
	}
	p.must(in(shard, tick(time, on...)))
}

// machine carries out all that anybody of a shard learned.
func (p *play) machine(shard int) *seal.Machine {
	m := seal.New()
	for slot := 0; ; slot++ {
		e, is := p.logs[shard][slot]
		if !is {
			return m
		}
		m.Do(e)
	}
}

// goOn has all go well at last: in each shard a checkout is told, and all read the same.
func (p *play) goOn() {
	p.wild, p.loss = false, 0
	for shard := range p.shards {
		for id := range p.config.Nodes {
			if p.stopped[[2]int{shard, id}] && p.c.Up(shard, id) {
				p.crash(shard, id)
			}
			if !p.c.Up(shard, id) {
				p.must(in(shard, at(api.StepRestart, id)))
			}
		}
		cart := cartIn(shard, p.shards)
		for try := 0; !p.tryAgain(shard, cart); try++ {
			if try > 20 {
				p.fail("a checkout in shard %d is not told", shard)
			}
			// Time goes by: also those of old are over who were granted a lease by a message that came late.
			p.tick(shard, 2*p.config.Lease*1000/(1000-p.config.Drift)+1)
		}
		for round := 0; round < 20 && p.unlike(shard) != ""; round++ {
			p.rounds(shard, 1)
		}
		if unlike := p.unlike(shard); unlike != "" {
			p.fail("shard %d: %s", shard, unlike)
		}
	}
}

// tryAgain checks out at a node that leads, and answers whether that is told. Others may lead by and by, as
// they still ask for promises in greater ballots.
func (p *play) tryAgain(shard int, cart string) bool {
	at := p.leader(shard)
	if at < 0 {
		p.must(api.Step{Kind: api.StepElect, Shard: shard, Node: p.rng.Intn(p.config.Nodes)})
		p.rounds(shard, 4)
		return false
	}
	id := p.call(at, checkout(0, cart, "last"))
	p.rounds(shard, 6)
	told := p.calls[id].told
	return told != nil && told.Answer.Err == api.OK && told.Answer.Known
}

// rounds has all that is sent come, and all nodes speak with one another.
func (p *play) rounds(shard, count int) {
	for range count {
		for id := range p.config.Nodes {
			p.must(in(shard, at(api.StepAgain, id)))
			for to := range p.config.Nodes {
				p.must(in(shard, gossip(id, to)))
			}
			p.must(in(shard, at(api.StepFlush, id)))
		}
		for len(p.c.Packets(shard)) > 0 {
			p.packet(shard)
		}
		for id := range p.config.Nodes {
			p.must(in(shard, at(api.StepFlush, id)))
		}
	}
}

// unlike tells what one node of a shard has and another one has not, "", if all have the same.
func (p *play) unlike(shard int) string {
	first := p.c.Node(shard, 0)
	for id := range p.config.Nodes {
		n := p.c.Node(shard, id)
		if a, b := n.Applied(), first.Applied(); !slices.Equal(a, b) {
			return fmt.Sprintf("node %d has applied %v, not %v", id, a, b)
		}
		if a, b := len(n.Entries()), len(first.Entries()); a != b {
			return fmt.Sprintf("node %d has learned %d, not %d", id, a, b)
		}
		for _, cart := range []string{"c", "d", "e", "f"} {
			if a, b := n.Read(cart), first.Read(cart); !same(a, b) {
				return fmt.Sprintf("node %d reads %v in %s, not %v", id, a, cart, b)
			}
		}
	}
	return ""
}

// again does the whole script once more, in another cluster.
func (p *play) again() {
	c := start(p.t, p.config, p.shards)
	for _, s := range p.script {
		c.Do(s)
	}
	if c.Steps() != p.c.Steps() || picture(c) != picture(p.c) {
		p.fail("the same script makes\n%s\nnot\n%s", picture(c), picture(p.c))
	}
}
