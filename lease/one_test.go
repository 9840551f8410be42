package lease_test

import (
	"fmt"
	"math/bits"
	"math/rand"
	"testing"

	"pannier/api"
	"pannier/clock"
	"pannier/lease"
)

// shard is clocks, holds, and of each node a ballot in which it asks for leases.
type shard struct {
	clocks *clock.Clocks
	holds  []*lease.Hold
	leases []*lease.Lease
	asks   []ask
}

// ask is one that is on its way, or its grant, which is on its way back.
type ask struct {
	from, to, time int
	granted        bool
}

func newShard(t *testing.T, nodes, length, drift int) *shard {
	t.Helper()
	s := &shard{}
	s.clocks, _ = clock.New(nodes)
	for range nodes {
		s.holds = append(s.holds, newHold(t, length))
		s.leases = append(s.leases, newLease(t, nodes, length, drift))
	}
	return s
}

func (s *shard) ballot(node int) api.Ballot {
	return of(1, node)
}

// deliver has one of the asks or grants come; it stays on its way, if it is doubled.
func (s *shard) deliver(at int, doubled bool) {
	a := s.asks[at]
	if !doubled {
		s.asks = append(s.asks[:at:at], s.asks[at+1:]...)
	}
	if a.granted {
		s.leases[a.from].Grant(a.to, a.time)
		return
	}
	if s.holds[a.to].Give(s.ballot(a.from), s.clocks.Now(a.to)) {
		a.granted = true
		s.asks = append(s.asks, a)
	}
}

// wantOne looks whether each majority of holds has one that blocks all others than a leader whose lease counts.
func (s *shard) wantOne(t *testing.T) bool {
	t.Helper()
	nodes, counting := len(s.holds), 0
	for leader := range nodes {
		if !s.leases[leader].Counts(s.clocks.Now(leader)) {
			continue
		}
		counting++
		for other := range nodes {
			through := uint(0)
			for at, h := range s.holds {
				if other != leader && !h.Blocks(s.ballot(other), s.clocks.Now(at)) {
					through |= 1 << at
				}
			}
			if bits.OnesCount(through) > nodes/2 {
				t.Errorf("the lease of %d counts, and %b let %d through", leader, through, other)
			}
		}
	}
	if counting > 1 {
		t.Errorf("%d leases count", counting)
	}
	return counting == 1
}

// While the clocks keep the drift one lease counts at a time, and no majority lets others through.
func TestOneAtATime(t *testing.T) {
	counted := 0
	for seed := range int64(600) {
		rng := rand.New(rand.NewSource(seed))
		nodes, length, drift := 1+rng.Intn(7), 1+rng.Intn(400), []int{0, 1, 100, 300, 999}[rng.Intn(5)]
		s := newShard(t, nodes, length, drift)
		for range 300 {
			switch rng.Intn(9) {
			case 0:
				s.askAll(rng.Intn(nodes))
			case 1:
				s.tick(t, rng, drift, 1+rng.Intn(length))
			case 2:
				s.tick(t, rng, drift, 1000)
			case 3:
				at := rng.Intn(nodes)
				if rng.Intn(5) == 0 { // a crash: its hold is not known any more
					s.holds[at] = newHold(t, length)
					s.holds[at].Restart(s.clocks.Now(at))
				}
			default:
				if len(s.asks) > 0 {
					s.deliver(rng.Intn(len(s.asks)), rng.Intn(10) == 0)
				}
			}
			if s.wantOne(t) {
				counted++
			}
			if t.Failed() {
				t.Fatal("seed", seed, nodes, length, drift)
			}
		}
	}
	if counted < 1000 {
		t.Error("a lease counted at", counted, "moments alone")
	}
}

func (s *shard) askAll(from int) {
	for to := range s.holds {
		s.asks = append(s.asks, ask{from: from, to: to, time: s.clocks.Now(from)})
	}
}

// tick lets the time go on; each clock drifts as far as it may, or less.
func (s *shard) tick(t *testing.T, rng *rand.Rand, drift, time int) {
	t.Helper()
	on := make([]int, len(s.holds))
	for at := range on {
		low, high := (time*(1000-drift)+999)/1000, time*(1000+drift)/1000
		on[at] = []int{low, high, low + rng.Intn(high-low+1)}[rng.Intn(3)]
	}
	if err := s.clocks.Tick(time, on); err != api.OK || !s.clocks.Keeps(drift) {
		t.Fatal(fmt.Sprint("Tick: ", time, on, drift), err)
	}
}

// The leader's clock is as slow as it may be, those of the others as fast: the lease ends no later than the holds.
func TestSlowLeader(t *testing.T) {
	for _, drift := range []int{0, 100, 500, 900} {
		for _, length := range []int{1, 10, 100, 999, 1000, 1900} {
			s := newShard(t, 3, length, drift)
			s.askAll(0)
			for range 6 {
				s.deliver(0, false)
			}
			for range 400 {
				if err := s.clocks.Tick(10, []int{(10*(1000-drift) + 999) / 1000, 10 * (1000 + drift) / 1000, 10 * (1000 + drift) / 1000}); err != api.OK {
					t.Fatal(err)
				}
				s.wantOne(t)
			}
		}
	}
}

// Where a clock does not keep the drift two leases may count: nothing else than the clocks is trusted.
func TestDriftIsNeeded(t *testing.T) {
	s := newShard(t, 3, 100, 0)
	for from := range 2 {
		s.askAll(from)
		for len(s.asks) > 0 {
			s.deliver(0, false)
		}
		if from == 0 {
			s.clocks.Tick(100, []int{0, 100, 100})
		}
	}
	for from := range 2 {
		wantCounts(t, "a clock stood still", s.leases[from], s.clocks.Now(from), true)
	}
}
