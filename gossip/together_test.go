package gossip_test

import (
	"math/rand"
	"slices"
	"testing"

	"pannier/api"
	"pannier/gossip"
	"pannier/replica"
	"pannier/vv"
)

// come hands m to r: what is sent back.
func come(r *replica.Replica, m api.Msg) []api.Msg {
	gossip.Take(r, m)
	return gossip.Answer(r, m)
}

// exchange hands all messages over, and what comes of them, till there are no more; and tells how many deltas there were.
func exchange(rs []*replica.Replica, l []api.Msg) int {
	deltas := 0
	for len(l) > 0 {
		m := l[0]
		if m.Kind == api.MsgDelta {
			deltas++
		}
		l = append(l[1:], come(rs[m.To], m)...)
	}
	return deltas
}

// together has a and b send digests to one another, till nothing is sent back any more.
func together(t *testing.T, rs []*replica.Replica, a, b int) {
	t.Helper()
	for range 10000 {
		if exchange(rs, []api.Msg{gossip.Digest(rs[a], b), gossip.Digest(rs[b], a)}) == 0 {
			return
		}
	}
	t.Fatal("there is no end of it")
}

func wantSame(t *testing.T, a, b *replica.Replica) {
	t.Helper()
	if !slices.Equal(a.Applied(), b.Applied()) || a.Save() != b.Save() || a.Waiting() != 0 || b.Waiting() != 0 {
		t.Errorf("%v (%d wait) and %v (%d wait)", a.Applied(), a.Waiting(), b.Applied(), b.Waiting())
	}
	if x, y := a.Read("c"), b.Read("c"); !slices.Equal(x, y) {
		t.Errorf("Read: %v, %v", x, y)
	}
}

// P14.5: a delta that is answered to a digest is applied in full.
func wantAppliedInFull(t *testing.T, from, to *replica.Replica) {
	t.Helper()
	for _, m := range gossip.Answer(from, gossip.Digest(to, from.Node())) {
		if m.Kind != api.MsgDelta {
			continue
		}
		if l, refused := gossip.Take(to.Fork(), m); len(l) != len(m.Events) || len(l) == 0 || refused != 0 {
			t.Errorf("of %d events %d were applied, %d refused", len(m.Events), len(l), refused)
		}
	}
}

func TestDeltasAreAppliedInFull(t *testing.T) {
	for seed := range int64(50) {
		rng := rand.New(rand.NewSource(seed))
		a, b := made(t, 0), made(t, 1)
		for range 200 {
			from, to := a, b
			if rng.Intn(2) == 0 {
				from, to = b, a
			}
			update(t, from, rng.Intn(7))
			wantAppliedInFull(t, from, to)
			wantAppliedInFull(t, to, from)
			if rng.Intn(3) > 0 {
				exchange([]*replica.Replica{a, b}, []api.Msg{gossip.Digest(to, from.Node())})
			}
		}
		if t.Failed() {
			t.Fatalf("seed %d", seed)
		}
	}
}

// Of more nodes, as long as nobody misses more than a piece has: also events of others come in full, and any two
// come together.
func TestFourNodes(t *testing.T) {
	for seed := range int64(50) {
		rng := rand.New(rand.NewSource(seed))
		rs := []*replica.Replica{made(t, 0), made(t, 1), made(t, 2), made(t, 3)}
		for range 200 {
			from, to := rng.Intn(4), rng.Intn(4)
			if mostMissing(rs) < api.Batch {
				update(t, rs[from], 1)
			}
			if from == to {
				continue
			}
			wantAppliedInFull(t, rs[from], rs[to])
			switch rng.Intn(6) {
			case 0, 1, 2:
				exchange(rs, []api.Msg{gossip.Digest(rs[to], from)})
			case 3:
				together(t, rs, from, to)
				wantSame(t, rs[from], rs[to])
			}
		}
		if t.Failed() {
			t.Fatalf("seed %d", seed)
		}
	}
}

// mostMissing is how many events one of them misses at most of what all have together.
func mostMissing(rs []*replica.Replica) int {
	var all []int
	for _, r := range rs {
		all = vv.Merge(all, r.Applied())
	}
	most := 0
	for _, r := range rs {
		most = max(most, vv.Count(all)-vv.Count(r.Applied()))
	}
	return most
}

// P14.6: two replicas come together, whatever is lost, doubled, or late.
func TestTwoComeTogether(t *testing.T) {
	for seed := range int64(80) {
		rng := rand.New(rand.NewSource(seed))
		rs := []*replica.Replica{made(t, 0), made(t, 1)}
		var way []api.Msg
		for range 300 {
			at := rng.Intn(2)
			switch rng.Intn(4) {
			case 0:
				update(t, rs[at], rng.Intn(4))
			case 1:
				way = append(way, gossip.Digest(rs[at], 1-at))
			default:
				if len(way) == 0 {
					continue
				}
				i := rng.Intn(len(way))
				m := way[i]
				if rng.Intn(4) > 0 { // else it comes once more
					way = slices.Delete(way, i, i+1)
				}
				if rng.Intn(4) > 0 { // else it is lost
					was := [2][]int{rs[0].Applied(), rs[1].Applied()}
					way = append(way, come(rs[m.To], m)...)
					if !vv.Below(was[0], rs[0].Applied()) || !vv.Below(was[1], rs[1].Applied()) {
						t.Fatalf("seed %d: something is gone", seed)
					}
				}
			}
		}
		own := [2]int{vv.Of(rs[0].Applied(), 0), vv.Of(rs[1].Applied(), 1)}
		together(t, rs, 0, 1)
		wantSame(t, rs[0], rs[1])
		if v := rs[0].Applied(); v[0] != own[0] || v[1] != own[1] {
			t.Errorf("applied are %v, made were %v", v, own)
		}
		exchange(rs, way) // what comes late does no harm
		wantSame(t, rs[0], rs[1])
		if t.Failed() {
			t.Fatalf("seed %d", seed)
		}
	}
}

// A piece is the first ones of what is missing, by rising origins: these may all wait for one of a later
// origin. They do no harm then, and are applied when that one comes.
func TestPieceThatWaits(t *testing.T) {
	a, b, c := made(t, 0), with(t, 1, 1), made(t, 2)
	first := b.After(nil, 1)
	wantTaken(t, "a takes it", a, delta(1, 0, first...), 0, first...)
	update(t, a, 20)
	all := a.After(nil, 99)
	l := gossip.Answer(a, gossip.Digest(c, 0))
	wantMessages(t, "a's answer", l, delta(0, 2, all[:16]...))
	wantTaken(t, "all of them wait", c, l[0], 0)
	wantTaken(t, "once more", c, l[0], 16)
	if len(c.Applied()) != 0 || c.Waiting() != 16 {
		t.Error("Applied:", c.Applied(), c.Waiting())
	}
	l = gossip.Answer(b, gossip.Digest(c, 1))
	wantTaken(t, "b's delta", c, l[0], 0, append(first, all[:16]...)...)
	together(t, []*replica.Replica{a, b, c}, 0, 2)
	wantSame(t, a, c)
}

// A long way: many pieces.
func TestManyPieces(t *testing.T) {
	rs := []*replica.Replica{with(t, 0, 1000), with(t, 1, 333)}
	together(t, rs, 0, 1)
	wantSame(t, rs[0], rs[1])
	if v := rs[0].Applied(); !slices.Equal(v, []int{1000, 333}) {
		t.Error("Applied:", v)
	}
}
