package clock_test

import (
	"fmt"
	"math"
	"math/big"
	"math/rand"
	"slices"
	"testing"

	"pannier/api"
	"pannier/clock"
)

func newClocks(t *testing.T, nodes int) *clock.Clocks {
	t.Helper()
	c, err := clock.New(nodes)
	if c == nil || err != api.OK {
		t.Fatalf("New(%d): %v, %d", nodes, c, err)
	}
	return c
}

func wantTick(t *testing.T, c *clock.Clocks, time int, on []int, wanted api.Errno) {
	t.Helper()
	if err := c.Tick(time, on); err != wanted {
		t.Errorf("Tick(%d, %v): %d, not %d", time, on, err, wanted)
	}
}

func wantClocks(t *testing.T, c *clock.Clocks, time int, now ...int) {
	t.Helper()
	if c.Time() != time {
		t.Errorf("the time is %d, not %d", c.Time(), time)
	}
	for node, n := range now {
		if c.Now(node) != n {
			t.Errorf("the clock of %d is %d, not %d", node, c.Now(node), n)
		}
	}
}

func TestNew(t *testing.T) {
	for _, nodes := range []int{0, -1, 8, math.MinInt, math.MaxInt} {
		if c, err := clock.New(nodes); c != nil || err != api.ErrArg {
			t.Errorf("New(%d): %v, %d", nodes, c, err)
		}
	}
	for nodes := 1; nodes <= 7; nodes++ {
		c := newClocks(t, nodes)
		wantClocks(t, c, 0, make([]int, nodes)...)
		wantTick(t, c, 1, make([]int, nodes), api.OK)
		wantTick(t, c, 1, make([]int, nodes+1), api.ErrArg)
		wantTick(t, c, 1, make([]int, nodes-1), api.ErrArg)
	}
}

func TestTick(t *testing.T) {
	c := newClocks(t, 3)
	wantTick(t, c, 10, []int{9, 10, 11}, api.OK)
	wantTick(t, c, 0, []int{0, 0, 0}, api.OK)
	wantTick(t, c, 1<<20, []int{0, 1, 1 << 20}, api.OK)
	wantClocks(t, c, 10+1<<20, 9, 11, 11+1<<20)
	for _, node := range []int{-1, 3, 7, math.MinInt, math.MaxInt} {
		if c.Now(node) != 0 {
			t.Errorf("Now(%d): %d", node, c.Now(node))
		}
	}
}

func TestTickRefused(t *testing.T) {
	c := newClocks(t, 2)
	wantTick(t, c, 5, []int{5, 5}, api.OK)
	ticks := []struct {
		time int
		on   []int
	}{
		{-1, []int{1, 1}}, {1<<20 + 1, []int{1, 1}}, {math.MinInt, []int{1, 1}}, {math.MaxInt, []int{1, 1}},
		{1, []int{-1, 1}}, {1, []int{1, -1}}, {1, []int{1<<20 + 1, 1}}, {1, []int{1, 1<<20 + 1}},
		{1, []int{math.MinInt, 1}}, {1, []int{1, math.MaxInt}},
		{1, nil}, {1, []int{}}, {1, []int{1}}, {1, []int{1, 1, 1}},
	}
	for _, k := range ticks {
		wantTick(t, c, k.time, k.on, api.ErrArg)
		wantClocks(t, c, 5, 5, 5)
		if !c.Keeps(0) {
			t.Errorf("the tick %v was refused, and counts", k)
		}
	}
}

func TestKeeps(t *testing.T) {
	ticks := []struct {
		time  int
		on    []int
		drift int
		keeps bool
	}{
		{1000, []int{900, 1100}, 100, true},
		{1000, []int{900, 1100}, 99, false},
		{1000, []int{899, 1100}, 100, false},
		{1000, []int{900, 1101}, 100, false},
		{1000, []int{900, 1101}, 101, true},
		{1000, []int{1000, 1000}, 0, true},
		{1000, []int{1000, 1001}, 0, false},
		{1000, []int{999, 1000}, 0, false},
		{3, []int{2}, 333, false}, // 2000 is not at least 2001
		{3, []int{2}, 334, true},
		{3, []int{4}, 333, false},
		{3, []int{4}, 334, true},
		{1, []int{1}, 0, true},
		{1, []int{2}, 999, false},
		{1, []int{0}, 999, false},
		{1000, []int{1}, 999, true},
		{1000, []int{1999}, 999, true},
		{1001, []int{1}, 999, false}, // 1000 is not at least 1001
		{1001, []int{2}, 999, true},
		{1000, []int{0}, 999, false},
		{1000, []int{2000}, 999, false},
		{0, []int{0, 0}, 0, true},
		{0, []int{0, 1}, 999, false},
		{0, []int{1, 0}, 999, false},
		{5, nil, 0, true},
		{5, []int{5, 5, 5, 5, 5, 5, 5, 5, 5}, 0, true},
		{1 << 20, []int{1 << 20}, 0, true},
		{1<<20 - 1, []int{1 << 20}, 1, true},
		{1<<20 - 1, []int{1 << 20}, 0, false},
		{1, []int{1 << 20}, 999, false},
		{1000, []int{1000}, 1000, false},
		{1000, []int{1000}, -1, false},
		{1000, []int{1000}, math.MaxInt, false},
		{1000, []int{1000}, math.MinInt, false},
		{-1, []int{-1}, 0, false},
		{-1, nil, 0, false},
		{1<<20 + 1, []int{1 << 20}, 10, false},
		{1 << 20, []int{1<<20 + 1}, 10, false},
		{1 << 20, []int{1 << 20, -1}, 999, false},
		{math.MaxInt, []int{math.MaxInt}, 0, false},
		{math.MinInt, []int{math.MinInt}, 0, false},
	}
	for _, k := range ticks {
		on := slices.Clone(k.on)
		if clock.Keeps(k.time, k.on, k.drift) != k.keeps || !slices.Equal(on, k.on) {
			t.Errorf("Keeps(%d, %v, %d): not %v", k.time, k.on, k.drift, k.keeps)
		}
	}
}

// keepsPlainly is what the chapter says, word by word.
func keepsPlainly(time int, on []int, drift int) bool {
	for _, a := range on {
		if 1000*a < (1000-drift)*time || 1000*a > (1000+drift)*time {
			return false
		}
	}
	return true
}

func TestKeepsPlainly(t *testing.T) {
	for time := range 40 {
		for a := range 90 {
			for drift := range 1000 {
				if clock.Keeps(time, []int{a}, drift) != keepsPlainly(time, []int{a}, drift) {
					t.Errorf("Keeps(%d, {%d}, %d) is wrong", time, a, drift)
				}
			}
		}
	}
	rng := rand.New(rand.NewSource(1))
	for range 100000 {
		time := rng.Intn(api.MaxTick + 1)
		drift := rng.Intn(1000)
		a := min(max(time-time*drift/1000+rng.Intn(3)-1, 0), api.MaxTick)
		b := min(max(time+time*drift/1000+rng.Intn(3)-1, 0), api.MaxTick)
		if clock.Keeps(time, []int{a, b}, drift) != keepsPlainly(time, []int{a, b}, drift) {
			t.Errorf("Keeps(%d, {%d, %d}, %d) is wrong", time, a, b, drift)
		}
	}
}

// Of clocks: all ticks so far count, and each for itself: one that is slow does not make good one that was fast.
func TestClocksKeep(t *testing.T) {
	c := newClocks(t, 2)
	wantKept := func(least int) {
		t.Helper()
		for drift := -1; drift <= 1001; drift++ {
			if c.Keeps(drift) != (drift >= least && drift <= 999) {
				t.Fatalf("Keeps(%d): %v, of clocks that keep %d", drift, c.Keeps(drift), least)
			}
		}
		if c.Keeps(math.MaxInt) || c.Keeps(math.MinInt) {
			t.Error("a drift that may not be is kept")
		}
	}
	wantKept(0)
	wantTick(t, c, 100, []int{100, 100}, api.OK)
	wantKept(0)
	wantTick(t, c, 100, []int{110, 100}, api.OK)
	wantKept(100)
	wantTick(t, c, 100, []int{90, 100}, api.OK)
	wantKept(100)
	wantTick(t, c, 1000, []int{1000, 1000}, api.OK)
	wantKept(100)
	wantTick(t, c, 7, []int{7, 5}, api.OK)
	wantKept(286)
	wantTick(t, c, 0, []int{0, 0}, api.OK)
	wantKept(286)
	wantTick(t, c, 1000, []int{1, 1999}, api.OK)
	wantKept(999)
	wantTick(t, c, 0, []int{0, 1}, api.OK)
	wantKept(1000)
	wantTick(t, c, 1000, []int{1000, 1000}, api.OK)
	wantKept(1000)
}

func TestTrust(t *testing.T) {
	trusts := []struct{ lease, drift, trust int }{
		{1100, 100, 900}, {1000, 0, 1000}, {1000, 500, 333}, {1, 0, 1}, {1, 1, 0}, {2, 1, 1}, {1999, 999, 1}, {1998, 999, 0},
		{1 << 20, 0, 1 << 20}, {1 << 20, 999, 524}, {1 << 20, 1, 1046480},
		{0, 0, 0}, {-1, 0, 0}, {1<<20 + 1, 0, 0}, {math.MaxInt, 0, 0}, {math.MinInt, 0, 0},
		{1000, -1, 0}, {1000, 1000, 0}, {1000, -1000, 0}, {1000, -1001, 0}, {1000, math.MaxInt, 0}, {1000, math.MinInt, 0},
	}
	for _, k := range trusts {
		if x := clock.Trust(k.lease, k.drift); x != k.trust {
			t.Errorf("Trust(%d, %d): %d, not %d", k.lease, k.drift, x, k.trust)
		}
	}
	rng := rand.New(rand.NewSource(1))
	for range 10000 {
		lease, drift := 1+rng.Intn(api.MaxTick), rng.Intn(1000)
		x := new(big.Rat).SetFrac64(int64(lease)*int64(1000-drift), int64(1000+drift))
		if trust := clock.Trust(lease, drift); int64(trust) != new(big.Int).Quo(x.Num(), x.Denom()).Int64() {
			t.Errorf("Trust(%d, %d): %d", lease, drift, trust)
		}
	}
}

func TestNil(t *testing.T) {
	for _, c := range []*clock.Clocks{nil, {}} {
		if err := c.Tick(1, nil); err != api.ErrClosed {
			t.Errorf("Tick: %d", err)
		}
		if err := c.Tick(-1, []int{1}); err != api.ErrClosed {
			t.Errorf("Tick that may not be: %d", err)
		}
		if c.Now(0) != 0 || c.Time() != 0 || c.Keeps(0) || c.Keeps(-1) || c.Fork() != nil {
			t.Error("no clocks tell something")
		}
	}
}

func TestFork(t *testing.T) {
	c := newClocks(t, 2)
	wantTick(t, c, 100, []int{90, 110}, api.OK)
	d := c.Fork()
	wantClocks(t, d, 100, 90, 110)
	if !d.Keeps(100) || d.Keeps(99) {
		t.Error("a fork keeps another drift")
	}
	wantTick(t, d, 100, []int{50, 100}, api.OK)
	wantClocks(t, c, 100, 90, 110)
	wantClocks(t, d, 200, 140, 210)
	if !c.Keeps(100) || d.Keeps(499) || !d.Keeps(500) {
		t.Error("a fork's ticks count elsewhere")
	}
	wantTick(t, c, 1, []int{1, 1}, api.OK)
	wantClocks(t, c, 101, 91, 111)
	wantClocks(t, d, 200, 140, 210)
}

func TestArgumentsAreNotKept(t *testing.T) {
	c := newClocks(t, 2)
	on := []int{1, 2, 99}
	wantTick(t, c, 2, on[:2], api.OK)
	wantTick(t, c, 2, on[:2], api.OK)
	if !slices.Equal(on, []int{1, 2, 99}) {
		t.Errorf("Tick changed its argument: %v", on)
	}
	on[0], on[1] = 7, 7
	wantClocks(t, c, 4, 2, 4)
}

// randomTick is one that keeps the drift, with clocks often at its edges.
func randomTick(rng *rand.Rand, nodes, drift int) (int, []int) {
	time := rng.Intn(50) * rng.Intn(50)
	least, most := (time*(1000-drift)+999)/1000, time*(1000+drift)/1000
	on := make([]int, nodes)
	for i := range on {
		switch rng.Intn(3) {
		case 0:
			on[i] = least
		case 1:
			on[i] = most
		default:
			on[i] = least + rng.Intn(most-least+1)
		}
	}
	return time, on
}

// moment is what all clocks said, and the time.
type moment struct {
	time int
	now  []int
}

// moments runs clocks that keep a drift, and looks at them behind each tick.
func moments(t *testing.T, rng *rand.Rand, nodes, drift int) []moment {
	t.Helper()
	c := newClocks(t, nodes)
	var seen []moment
	for range 30 {
		m := moment{time: c.Time()}
		for node := range nodes {
			m.now = append(m.now, c.Now(node))
		}
		seen = append(seen, m)
		time, on := randomTick(rng, nodes, drift)
		wantTick(t, c, time, on, api.OK)
	}
	if !c.Keeps(drift) {
		t.Fatalf("drift %d is not kept", drift)
	}
	return seen
}

// Between any two moments the drift is kept.
func TestDriftBetweenMoments(t *testing.T) {
	rng := rand.New(rand.NewSource(2))
	for range 100 {
		drift := []int{0, 1, 10, 100, 500, 999, rng.Intn(1000)}[rng.Intn(7)]
		seen := moments(t, rng, 3, drift)
		for i, from := range seen {
			for _, to := range seen[i:] {
				for node := range from.now {
					a, time := to.now[node]-from.now[node], to.time-from.time
					if !keepsPlainly(time, []int{a}, drift) {
						t.Fatalf("a clock went on by %d in %d, of drift %d", a, time, drift)
					}
				}
			}
		}
	}
}

// While one clock went on by less than what is trusted, no other one went on by the lease since a later moment.
func TestTrustBetweenMoments(t *testing.T) {
	rng := rand.New(rand.NewSource(3))
	held := 0
	for range 200 {
		drift := []int{0, 1, 10, 100, 500, 900, rng.Intn(1000)}[rng.Intn(7)]
		lease := 1 + rng.Intn(8000)
		trust := clock.Trust(lease, drift)
		seen := moments(t, rng, 3, drift)
		for i, from := range seen {
			for j, later := range seen[i:] {
				for _, to := range seen[i+j:] {
					for node := range 3 {
						other := (node + 1 + rng.Intn(2)) % 3
						if to.now[node]-from.now[node] >= trust {
							continue
						}
						held++
						if gone := to.now[other] - later.now[other]; gone >= lease {
							t.Fatalf("lease %d, drift %d, trust %d: %s", lease, drift, trust, fmt.Sprint(from, later, to))
						}
					}
				}
			}
		}
	}
	if held < 1000 {
		t.Errorf("only %d times", held)
	}
}

// What is trusted is as much as can be: with one more, the other clock may have gone on by the lease.
func TestTrustIsTheMost(t *testing.T) {
	c := newClocks(t, 2)
	wantTick(t, c, 1000, []int{900, 1100}, api.OK)
	if !c.Keeps(100) || c.Now(0) != clock.Trust(1100, 100) || c.Now(1) != 1100 {
		t.Error("the lease is over just when it is not trusted any more")
	}
}
