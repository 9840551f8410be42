package cluster_test

import (
	"math/rand"
	"os"
	"strconv"
	"testing"

	"pannier/api"
)

// sums counts what happened, so that no script is told to have gone well in which nothing happened.
type sums struct {
	orders, receipts, known, unknown, lease, reads, errors, again, lost, twice, crashes, torn int
}

func (s *sums) add(m *asked) {
	a := m.told.Answer
	switch {
	case a.Err != api.OK:
		s.errors++
	case m.Call.Kind == api.CallRead:
		s.reads++
	case m.Call.Kind == api.CallCheckout:
		s.receipts++
	case m.Call.Kind == api.CallStatus && a.Known:
		s.known++
	case m.Call.Kind == api.CallStatus:
		s.unknown++
	}
	if m.Call.Kind == api.CallStatus && m.lease && a.Err == api.OK {
		s.lease++
	}
}

func (s *sums) take(p *play) {
	for shard := range p.shards {
		s.orders += len(p.machine(shard).Orders())
	}
	x := p.sums
	s.receipts, s.known, s.unknown, s.lease = s.receipts+x.receipts, s.known+x.known, s.unknown+x.unknown, s.lease+x.lease
	s.reads, s.errors, s.again = s.reads+x.reads, s.errors+x.errors, s.again+x.again
	s.lost, s.twice, s.crashes, s.torn = s.lost+x.lost, s.twice+x.twice, s.crashes+x.crashes, s.torn+x.torn
}

func (s sums) wantSome(t *testing.T) {
	t.Helper()
	t.Logf("%+v", s)
	least := int(scripts()) / 5
	for _, n := range []int{s.orders, s.receipts, s.known, s.unknown, s.lease, s.reads, s.errors, s.again, s.lost, s.twice, s.crashes, s.torn} {
		if n < least {
			t.Fatalf("too little happened: %+v", s)
		}
	}
}

// scripts is how many of each kind are tried: more, if SCRIPTS says so.
func scripts() int64 {
	if n, err := strconv.Atoi(os.Getenv("SCRIPTS")); err == nil {
		return int64(n)
	}
	return 40
}

// anyConfig is one with much room.
func anyConfig(rng *rand.Rand) api.Config {
	return api.Config{Nodes: 1 + rng.Intn(5), Lease: 1 + rng.Intn(200), Drift: rng.Intn(3) * 100, Segment: 600 + rng.Intn(2000), Disk: 1 << 20}
}

// plays has scripts of so many steps be looked at.
func plays(t *testing.T, steps int, begin func(p *play), config func(rng *rand.Rand) api.Config, end func(p *play)) {
	t.Helper()
	t.Parallel()
	var s sums
	for seed := range scripts() {
		rng := rand.New(rand.NewSource(seed))
		p := newPlay(t, seed, config(rng), 1+rng.Intn(3))
		begin(p)
		for range steps {
			p.step()
		}
		p.finish()
		end(p)
		p.finish()
		s.take(p)
	}
	s.wantSome(t)
}

// TestScripts: whatever happens, what was told holds; when all goes well at last, it goes on; and the same
// script does the same.
func TestScripts(t *testing.T) {
	plays(t, 2000, func(*play) {}, anyConfig, func(p *play) {
		p.goOn()
		if p.seed%10 == 0 {
			p.again()
		}
	})
}

// TestScriptsOfAdditions: nothing that was added is lost, or is in two orders.
func TestScriptsOfAdditions(t *testing.T) {
	begin := func(p *play) { p.clears = false }
	plays(t, 2000, begin, anyConfig, func(p *play) {
		p.goOn()
		for shard := range p.shards {
			p.wantSums(shard)
		}
	})
}

// TestScriptsOfManyUpdates: nodes miss more than a piece of them.
func TestScriptsOfManyUpdates(t *testing.T) {
	plays(t, 2000, func(p *play) { p.busy = true }, anyConfig, (*play).goOn)
}

// TestWildScripts: clocks do not keep the drift; all but what is told from leases holds.
func TestWildScripts(t *testing.T) {
	plays(t, 2000, func(p *play) { p.wild = true }, anyConfig, (*play).goOn)
}

// TestLossyScripts: of three packets one is lost, and one comes twice.
func TestLossyScripts(t *testing.T) {
	plays(t, 3000, func(p *play) { p.loss = 33 }, anyConfig, (*play).goOn)
}

// TestFullScripts: on disks that are full now and then.
func TestFullScripts(t *testing.T) {
	small := func(rng *rand.Rand) api.Config {
		c := anyConfig(rng)
		c.Segment, c.Disk = 100+rng.Intn(1000), 300+rng.Intn(4000)
		return c
	}
	plays(t, 2500, func(p *play) { p.busy = true }, small, func(*play) {})
}
