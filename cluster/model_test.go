package cluster_test

import (
	"fmt"
	"math/rand"
	"strings"
	"testing"

	"pannier/api"
	"pannier/clock"
	"pannier/cluster"
	"pannier/codec"
	"pannier/disk"
	"pannier/net"
	"pannier/node"
	"pannier/router"
)

// plain is a cluster as the chapter's words say it, kind by kind.
type plain struct {
	config api.Config
	shards []*plainShard
	steps  int
	made   []api.Made
	told   []api.Told
}

type plainShard struct {
	net    *net.Net
	clocks *clock.Clocks
	disks  []*disk.Disk
	nodes  []*node.Node
}

func newPlain(c api.Config, shards int) *plain {
	p := &plain{config: c}
	for range shards {
		s := &plainShard{}
		s.net, _ = net.New(c.Nodes)
		s.clocks, _ = clock.New(c.Nodes)
		for id := range c.Nodes {
			d, _ := disk.New(c.Disk)
			n, _ := node.New(c, id, d, 0)
			s.disks, s.nodes = append(s.disks, d), append(s.nodes, n)
		}
		p.shards = append(p.shards, s)
	}
	return p
}

func (p *plain) do(s api.Step) api.Errno {
	p.steps++
	if s.Kind < api.StepCall || s.Kind > api.StepStop {
		return api.ErrArg
	}
	number := s.Shard
	if s.Kind == api.StepCall {
		number = router.Shard(s.Call.Cart, len(p.shards))
	}
	if number < 0 || number >= len(p.shards) {
		return api.ErrArg
	}
	sh := p.shards[number]
	switch s.Kind {
	case api.StepDeliver, api.StepLose, api.StepTwice:
		return p.packet(sh, s)
	case api.StepTick:
		err := sh.clocks.Tick(s.Time, s.On)
		for id, n := range sh.nodes {
			if err == api.OK && n != nil {
				n.Tick(sh.clocks.Now(id))
			}
		}
		return err
	}
	if s.Node < 0 || s.Node >= p.config.Nodes {
		return api.ErrArg
	}
	return p.ofNode(number, sh, s)
}

func (p *plain) packet(sh *plainShard, s api.Step) api.Errno {
	id, is := sh.net.At(s.At)
	if !is {
		return api.ErrNone
	}
	if s.Kind == api.StepTwice {
		_, err := sh.net.Twice(id)
		return err
	}
	x, _ := sh.net.Take(id)
	m, err := codec.ReadMsg([]byte(x.Body))
	if s.Kind == api.StepDeliver && err == api.OK {
		sh.nodes[x.To].On(m)
	}
	return api.OK
}

func (p *plain) ofNode(number int, sh *plainShard, s api.Step) api.Errno {
	n, d := sh.nodes[s.Node], sh.disks[s.Node]
	var err api.Errno
	switch {
	case s.Kind == api.StepRestart && n != nil:
		return api.ErrTwice
	case s.Kind == api.StepRestart:
		sh.nodes[s.Node], err = node.New(p.config, s.Node, d, sh.clocks.Now(s.Node))
	case n == nil:
		return api.ErrDown
	case s.Kind == api.StepCall:
		if err = n.Call(s.Call); err == api.OK {
			p.made = append(p.made, api.Made{Step: p.steps, Shard: number, Node: s.Node, Call: s.Call})
		}
	case s.Kind == api.StepCrash:
		if err = d.Crash(s.Keep); err == api.OK {
			sh.nodes[s.Node] = nil
		}
	case s.Kind == api.StepElect:
		n.Elect()
	case s.Kind == api.StepRenew:
		n.Renew()
	case s.Kind == api.StepGossip:
		n.Gossip(s.At)
	case s.Kind == api.StepAgain:
		n.Again()
	case s.Kind == api.StepCompact:
		err = n.Compact()
	case s.Kind == api.StepStop:
		d.Stop(s.At)
	case s.Kind == api.StepFlush:
		var out []api.Out
		out, err = n.Flush()
		for _, o := range out {
			if o.IsAnswer {
				p.told = append(p.told, api.Told{Step: p.steps, Shard: number, Node: s.Node, Answer: o.Answer})
			} else if b, err := codec.Msg(o.Msg); err == api.OK {
				sh.net.Send(o.Msg.From, o.Msg.To, string(b))
			}
		}
	}
	return err
}

// picture is what picture tells of a cluster.
func (p *plain) picture() string {
	var b strings.Builder
	fmt.Fprintf(&b, "made %+v\ntold %+v\n", p.made, p.told)
	for _, drift := range []int{0, 50, 100, 500, 999} {
		keeps := true
		for _, s := range p.shards {
			keeps = keeps && s.clocks.Keeps(drift)
		}
		fmt.Fprint(&b, keeps, " ")
	}
	for shard := range api.MaxShards {
		if shard >= len(p.shards) {
			fmt.Fprintf(&b, "\nshard %d: packets []\n", shard)
			continue
		}
		s := p.shards[shard]
		fmt.Fprintf(&b, "\nshard %d: packets %+v\n", shard, s.net.All())
		for id, n := range s.nodes {
			if now := s.clocks.Now(id); n != nil || now > 0 {
				fmt.Fprintf(&b, "%d: up %v, now %d, %s", id, n != nil, now, state(n))
			}
		}
	}
	return b.String()
}

// anyStep is one of any kind, often one that may be.
func anyStep(rng *rand.Rand, c api.Config, shards int) api.Step {
	kinds := []int{api.StepCall, api.StepCall, api.StepDeliver, api.StepDeliver, api.StepDeliver, api.StepFlush, api.StepFlush, api.StepFlush, api.StepRestart}
	s := api.Step{Kind: 1 + rng.Intn(api.StepStop), Shard: rng.Intn(shards), Node: rng.Intn(c.Nodes), At: rng.Intn(9) - 2}
	if rng.Intn(3) > 0 {
		s.Kind = kinds[rng.Intn(len(kinds))]
	}
	switch rng.Intn(60) {
	case 0:
		s.Kind = rng.Intn(20) - 3
	case 1:
		s.Shard = rng.Intn(12) - 2
	case 2:
		s.Node = rng.Intn(12) - 2
	}
	switch s.Kind {
	case api.StepCall:
		s.Call = api.Call{Id: rng.Intn(1000), Kind: 1 + rng.Intn(4), Cart: fmt.Sprint("c", rng.Intn(6)), Sku: "tea", Qty: rng.Intn(5), Token: fmt.Sprint("t", rng.Intn(5))}
		if rng.Intn(20) == 0 {
			s.Call.Kind, s.Call.Qty = rng.Intn(7), rng.Intn(3)*1000
		}
	case api.StepTick:
		s.Time = rng.Intn(c.Lease)
		for range c.Nodes + rng.Intn(11)/10 {
			s.On = append(s.On, s.Time*(900+rng.Intn(201))/1000-rng.Intn(20)/19)
		}
	case api.StepCrash:
		for i := range rng.Intn(3) {
			s.Keep = append(s.Keep, api.Torn{Name: fmt.Sprint("n-log-", 1+i), Bytes: rng.Intn(20)})
		}
	case api.StepStop:
		s.At = rng.Intn(40) - 1
	}
	return s
}

// TestAnyScript: any steps, right ones and wrong ones, against the words.
func TestAnyScript(t *testing.T) {
	count := map[api.Errno]int{}
	for seed := range int64(150) {
		rng := rand.New(rand.NewSource(seed))
		x := api.Config{Nodes: 1 + rng.Intn(4), Lease: 1 + rng.Intn(200), Drift: rng.Intn(200), Segment: 1 + rng.Intn(1000), Disk: 100 + rng.Intn(5000)}
		shards := 1 + rng.Intn(3)
		c, p := start(t, x, shards), newPlain(x, shards)
		for i := range 400 {
			s := anyStep(rng, x, shards)
			got, wanted := c.Do(s), p.do(s)
			if got != wanted || c.Steps() != i+1 {
				t.Fatalf("seed %d: step %d: Do(%+v): %d, not %d", seed, i+1, s, got, wanted)
			}
			count[got]++
			if i%20 > 0 && i < 380 {
				continue
			}
			if a, b := picture(c), p.picture(); a != b {
				t.Fatalf("seed %d: behind %d steps, the last one %+v:\n%s\nnot\n%s", seed, i+1, s, a, b)
			}
		}
	}
	for _, err := range []api.Errno{api.OK, api.ErrArg, api.ErrDown, api.ErrTwice, api.ErrNone, api.ErrCall, api.ErrFull, api.ErrOff} {
		if count[err] < 20 {
			t.Errorf("%d was answered %d times", err, count[err])
		}
	}
}

// TestSameScript: the same script does the same.
func TestSameScript(t *testing.T) {
	for seed := range int64(30) {
		x := config(3)
		x.Segment, x.Disk = 100, 5000
		run := func() (*cluster.Cluster, string) {
			rng := rand.New(rand.NewSource(seed))
			c := start(t, x, 2)
			var errs []api.Errno
			for range 500 {
				errs = append(errs, c.Do(anyStep(rng, x, 2)))
			}
			return c, fmt.Sprint(errs)
		}
		a, first := run()
		b, second := run()
		if first != second || picture(a) != picture(b) {
			t.Errorf("seed %d: twice the same script:\n%s\n%s\nand\n%s\n%s", seed, first, picture(a), second, picture(b))
		}
	}
}
