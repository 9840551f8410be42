package lease_test

import (
	"math"
	"math/rand"
	"testing"

	"pannier/api"
	"pannier/clock"
	"pannier/lease"
)

func newLease(t *testing.T, nodes, length, drift int) *lease.Lease {
	t.Helper()
	l, err := lease.New(nodes, length, drift)
	if l == nil || err != api.OK {
		t.Fatalf("New(%d, %d, %d): %v, %d", nodes, length, drift, l, err)
	}
	return l
}

func wantCounts(t *testing.T, what string, l *lease.Lease, now int, wanted bool) {
	t.Helper()
	if l.Counts(now) != wanted {
		t.Errorf("%s: Counts(%d) is %v", what, now, !wanted)
	}
}

func TestNewArguments(t *testing.T) {
	for _, a := range [][3]int{
		{0, 10, 0}, {-1, 10, 0}, {8, 10, 0}, {math.MinInt, 10, 0}, {math.MaxInt, 10, 0},
		{3, 0, 0}, {3, -1, 0}, {3, 1<<20 + 1, 0}, {3, math.MinInt, 0}, {3, math.MaxInt, 0},
		{3, 10, -1}, {3, 10, 1000}, {3, 10, math.MinInt}, {3, 10, math.MaxInt},
	} {
		if l, err := lease.New(a[0], a[1], a[2]); l != nil || err != api.ErrArg {
			t.Errorf("New(%v): %v, %d", a, l, err)
		}
	}
	for _, a := range [][3]int{{1, 1, 0}, {7, 1 << 20, 999}, {7, 1, 0}, {1, 1 << 20, 999}, {4, 100, 500}} {
		l := newLease(t, a[0], a[1], a[2])
		for _, now := range []int{math.MinInt, -1, 0, 1, api.MaxClock, math.MaxInt} {
			wantCounts(t, "nobody granted", l, now, false)
		}
	}
}

func TestExample(t *testing.T) {
	l := newLease(t, 3, 1000, 0)
	l.Grant(0, 0)
	wantCounts(t, "one node", l, 0, false)
	l.Grant(2, 0)
	wantCounts(t, "two nodes", l, 0, true)
	wantCounts(t, "two nodes", l, 999, true)
	wantCounts(t, "two nodes", l, 1000, false)
}

// A majority is needed, and one node less is not enough.
func TestMajority(t *testing.T) {
	for nodes := 1; nodes <= api.MaxNodes; nodes++ {
		for granted := range 1 << nodes {
			l := newLease(t, nodes, 100, 0)
			count := 0
			for node := range nodes {
				if granted>>node&1 == 1 {
					l.Grant(node, 5)
					count++
				}
			}
			for _, now := range []int{5, 104} {
				wantCounts(t, "those who granted", l, now, count >= nodes/2+1)
			}
			wantCounts(t, "ahead of the asks", l, 4, false)
			wantCounts(t, "behind the last moment", l, 105, false)
		}
	}
}

// Each ask is over at its own moment, by what may be trusted of the lease, and does not count ahead of itself.
func TestMoments(t *testing.T) {
	for _, k := range []struct{ length, drift int }{{100, 0}, {100, 100}, {1100, 100}, {1000, 999}, {2000, 999}, {1 << 20, 0}, {1 << 20, 1}, {1, 0}} {
		l, trust := newLease(t, 3, k.length, k.drift), clock.Trust(k.length, k.drift)
		l.Grant(0, 50)
		l.Grant(1, 70)
		for now := range 200 {
			wantCounts(t, "asked at 50 and 70", l, now, 70 <= now && now < 50+trust)
		}
		wantCounts(t, "the last moment", l, 50+trust-1, trust > 20)
		wantCounts(t, "behind it", l, 50+trust, false)
		l.Grant(2, 90)
		wantCounts(t, "by the next two", l, 70+trust-1, trust > 20)
		wantCounts(t, "behind these", l, 70+trust, false)
	}
	// What is rounded down to nothing is never trusted.
	l := newLease(t, 1, 1, 1)
	l.Grant(0, 5)
	for now := range 10 {
		wantCounts(t, "no trust", l, now, false)
	}
}

func TestGrant(t *testing.T) {
	l := newLease(t, 3, 100, 0)
	for _, g := range [][2]int{{-1, 5}, {3, 5}, {math.MinInt, 5}, {math.MaxInt, 5}, {0, -1}, {1, math.MinInt}, {0, api.MaxClock + 1}, {1, math.MaxInt}} {
		l.Grant(g[0], g[1])
	}
	for _, now := range []int{-1, 0, 5, api.MaxClock, api.MaxClock + 1, math.MaxInt} {
		wantCounts(t, "wrong grants", l, now, false)
	}
	l.Grant(0, 0)
	l.Grant(1, 0)
	wantCounts(t, "asked at 0", l, 0, true)
	wantCounts(t, "asked at 0", l, 99, true)
	wantCounts(t, "asked at 0", l, 100, false)
	l.Grant(1, 50)
	l.Grant(0, 50)
	for _, asked := range []int{49, 50, 0, -1, api.MaxClock + 1} { // none is above the one ahead
		l.Grant(0, asked)
		l.Grant(1, asked)
		wantCounts(t, "asked at 50", l, 49, false)
		wantCounts(t, "asked at 50", l, 50, true)
		wantCounts(t, "asked at 50", l, 149, true)
		wantCounts(t, "asked at 50", l, 150, false)
	}
	l.Grant(0, 51)
	wantCounts(t, "one asked later", l, 50, false)
	wantCounts(t, "one asked later", l, 51, true)
	wantCounts(t, "one asked later", l, 149, true)
	l.Grant(0, api.MaxClock)
	l.Grant(1, api.MaxClock)
	wantCounts(t, "at the end of clocks", l, api.MaxClock-1, false)
	wantCounts(t, "at the end of clocks", l, api.MaxClock, true)
	wantCounts(t, "at the end of clocks", l, api.MaxClock+99, true)
	wantCounts(t, "at the end of clocks", l, api.MaxClock+100, false)
	wantCounts(t, "at the end of clocks", l, math.MaxInt, false)
	wantCounts(t, "at the end of clocks", l, math.MinInt, false)
}

func TestClear(t *testing.T) {
	l := newLease(t, 3, 100, 0)
	l.Grant(0, 50)
	l.Grant(1, 50)
	l.Clear()
	wantCounts(t, "cleared", l, 50, false)
	l.Grant(0, 10) // below what it granted ahead of that
	wantCounts(t, "one granted anew", l, 50, false)
	l.Grant(1, 10)
	wantCounts(t, "two granted anew", l, 50, true)
	wantCounts(t, "two granted anew", l, 110, false)
}

func TestForkOfALease(t *testing.T) {
	l := newLease(t, 3, 100, 0)
	l.Grant(0, 50)
	f := l.Fork()
	l.Grant(1, 50)
	wantCounts(t, "the fork", f, 50, false)
	f.Grant(2, 70)
	wantCounts(t, "the fork", f, 149, true)
	wantCounts(t, "the fork", f, 150, false)
	f.Clear()
	wantCounts(t, "the first one", l, 50, true)
	wantCounts(t, "the fork, cleared", f, 50, false)
	l.Clear()
	f = newLease(t, 1, 7, 0).Fork()
	f.Grant(0, 1)
	wantCounts(t, "a fork of nothing", f, 7, true)
	wantCounts(t, "a fork of nothing", f, 8, false)
}

func TestClosedLease(t *testing.T) {
	for _, l := range []*lease.Lease{nil, {}} {
		l.Grant(0, 0)
		l.Clear()
		wantCounts(t, "closed", l, 0, false)
		if f := l.Fork(); f != nil {
			t.Error("Fork:", f)
		}
	}
}

// Against one that keeps all grants, and looks for the greatest.
func TestLeaseByScripts(t *testing.T) {
	rng := rand.New(rand.NewSource(1))
	for range 2000 {
		nodes, length, drift := 1+rng.Intn(7), 1+rng.Intn(30), rng.Intn(3)*100
		l := newLease(t, nodes, length, drift)
		asks := map[int][]int{}
		for range 40 {
			switch rng.Intn(20) {
			case 0:
				l.Clear()
				clear(asks)
			case 1:
				l = l.Fork()
			default:
				node, asked := rng.Intn(nodes+2)-1, rng.Intn(60)-1
				l.Grant(node, asked)
				if 0 <= node && node < nodes && asked >= 0 {
					asks[node] = append(asks[node], asked)
				}
			}
			now, count := rng.Intn(90), 0
			for _, all := range asks {
				last := all[0]
				for _, asked := range all {
					last = max(last, asked)
				}
				if last <= now && now-last < length*(1000-drift)/(1000+drift) {
					count++
				}
			}
			wantCounts(t, "by a script", l, now, 2*count > nodes)
		}
		if t.Failed() {
			t.Fatal(nodes, length, drift)
		}
	}
}
