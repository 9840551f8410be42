package replica_test

import (
	"fmt"
	"math/rand"
	"slices"
	"testing"

	"pannier/api"
	"pannier/cart"
	"pannier/cut"
	"pannier/oplog"
	"pannier/replica"
	"pannier/vv"
)

// plainReplica is a replica by the document's words alone: a log, and seals.
type plainReplica struct {
	node  int
	log   *oplog.Log
	seals []api.Seal
}

func (p *plainReplica) events() []api.Event {
	return slices.Collect(p.log.All())
}

func (p *plainReplica) epoch(cart string) int {
	return cut.Epoch(p.seals, cart)
}

func (p *plainReplica) update(cart, sku string, qty int, clears bool) api.Event {
	v := p.log.Applied()
	e := api.Event{Dot: api.Dot{Origin: p.node, Seq: vv.Of(v, p.node) + 1}, Deps: v, Cart: cart, Epoch: p.epoch(cart), Sku: sku, Qty: qty, Clears: clears}
	p.log.Put(e)
	return e
}

func (p *plainReplica) take(e api.Event) ([]api.Event, api.Errno) {
	if e.Dot.Origin == p.node {
		return nil, api.ErrEvent
	}
	return p.log.Put(e)
}

func (p *plainReplica) learn(s api.Seal) api.Errno {
	seals := append(slices.Clone(p.seals), s)
	if _, err := cut.Check(seals); err != api.OK {
		return api.ErrSeal
	}
	p.seals = seals
	return api.OK
}

func carts() []string { return []string{"c", "d", "e"} }

func skus() []string { return []string{"jam", "milk", "tea"} }

func pick[T any](rng *rand.Rand, l []T) T {
	return l[rng.Intn(len(l))]
}

// wantPlain looks whether r tells what the plain one tells.
func wantPlain(t *testing.T, r *replica.Replica, p *plainReplica) {
	t.Helper()
	l := p.events()
	if r.Node() != p.node || !slices.Equal(r.Applied(), p.log.Applied()) || r.Waiting() != len(p.log.Waiting()) {
		t.Errorf("%d, %v, %d, not %d, %v, %d", r.Node(), r.Applied(), r.Waiting(), p.node, p.log.Applied(), len(p.log.Waiting()))
	}
	if !slices.EqualFunc(r.Seals(), p.seals, sameSeal) {
		t.Errorf("Seals: %v, not %v", r.Seals(), p.seals)
	}
	for _, name := range append(carts(), "none") {
		if r.Epoch(name) != p.epoch(name) {
			t.Errorf("Epoch(%s): %d, not %d", name, r.Epoch(name), p.epoch(name))
		}
		if got, wanted := r.Read(name), cut.Open(l, p.seals, name); !cart.Same(got, wanted) {
			t.Errorf("Read(%s): %v, not %v", name, got, wanted)
		}
		for epoch := -1; epoch <= p.epoch(name); epoch++ {
			got, whole := r.Order(name, epoch)
			wanted, wantedWhole := cut.Order(l, p.seals, name, epoch), cut.Whole(p.log.Applied(), p.seals, name, epoch)
			if !cart.Same(got, wanted) || whole != wantedWhole {
				t.Errorf("Order(%s, %d): %v, %v, not %v, %v", name, epoch, got, whole, wanted, wantedWhole)
			}
		}
	}
	if r.Save() != savedOf(l, p.seals) {
		t.Errorf("Save: %q", r.Save())
	}
}

// randomSeal is one that may follow, or may not.
func randomSeal(rng *rand.Rand, p *plainReplica) api.Seal {
	name := pick(rng, carts())
	epoch := p.epoch(name)
	if rng.Intn(4) == 0 {
		epoch += rng.Intn(3) - 1
	}
	var v []int
	for range rng.Intn(4) {
		v = append(v, rng.Intn(8))
	}
	return api.Seal{Token: fmt.Sprint("t", rng.Intn(9)), Cart: name, Epoch: epoch, Cut: vv.Plain(v)}
}

// Whatever is done, one thing behind the other, at some nodes: each replica tells what the plain one tells.
func TestAsThePlainOne(t *testing.T) {
	for seed := range int64(60) {
		rng := rand.New(rand.NewSource(seed))
		nodes := 2 + rng.Intn(3)
		var rs []*replica.Replica
		var ps []*plainReplica
		for node := range nodes {
			rs = append(rs, made(t, node))
			ps = append(ps, &plainReplica{node: node, log: oplog.New()})
		}
		var all []api.Event
		for range 150 {
			at := rng.Intn(nodes)
			r, p := rs[at], ps[at]
			switch rng.Intn(8) {
			case 0, 1:
				name, sku, qty, clears := pick(rng, carts()), pick(rng, skus()), rng.Intn(5), rng.Intn(3) == 0
				e, err := r.Update(name, sku, qty, clears)
				if wanted := p.update(name, sku, qty, clears); err != api.OK || !sameEvent(e, wanted) {
					t.Fatalf("seed %d: Update: %v, %d, not %v", seed, e, err, wanted)
				}
				all = append(all, e)
			case 2:
				s := randomSeal(rng, p)
				if err, wanted := r.Learn(s), p.learn(s); err != wanted {
					t.Fatalf("seed %d: Learn(%v): %d, not %d", seed, s, err, wanted)
				}
			case 3:
				rs[at] = r.Fork()
				r.Update("c", "tea", 1, false) // nobody sees it any more
			case 4:
				if r.Waiting() == 0 {
					rs[at] = wantLoaded(t, at, r.Save())
				}
			default:
				if len(all) == 0 {
					continue
				}
				e := pick(rng, all)
				got, err := r.Take(e)
				wanted, wantedErr := p.take(e)
				if err != wantedErr || !slices.EqualFunc(got, wanted, sameEvent) {
					t.Fatalf("seed %d: Take(%v): %v, %d, not %v, %d", seed, e, got, err, wanted, wantedErr)
				}
			}
			wantPlain(t, rs[at], p)
			if t.Failed() {
				t.Fatalf("seed %d", seed)
			}
		}
	}
}

// history is what some nodes made, each having seen some of what others did.
func history(t *testing.T, rng *rand.Rand, nodes, events int) []api.Event {
	var rs []*replica.Replica
	for node := range nodes {
		rs = append(rs, made(t, node))
	}
	var all []api.Event
	for range events {
		r := pick(rng, rs)
		if rng.Intn(3) == 0 {
			r.Learn(api.Seal{Token: "t", Cart: "c", Epoch: r.Epoch("c"), Cut: r.Applied()})
		}
		all = append(all, update(t, r, pick(rng, carts()), pick(rng, skus()), rng.Intn(4), rng.Intn(3) == 0))
		for other := range nodes {
			for _, e := range r.After(rs[other].Applied(), rng.Intn(3)) {
				rs[other].Take(e)
			}
		}
	}
	return all
}

// P13.5: whatever the order in which two replicas applied and learned the same, they tell the same.
func TestConvergence(t *testing.T) {
	for seed := range int64(40) {
		rng := rand.New(rand.NewSource(seed))
		nodes := 1 + rng.Intn(5)
		all := history(t, rng, nodes, 40)
		var seals []api.Seal
		for at := range 6 {
			seals = append(seals, seal(fmt.Sprint("s", at), pick(rng, carts()), 0, pick(rng, all).Deps...))
			seals[at].Epoch = cut.Epoch(seals[:at], seals[at].Cart)
		}
		mixed := func(node int) *replica.Replica {
			r, learned := made(t, node), 0
			for _, at := range rng.Perm(len(all)) {
				if _, err := r.Take(all[at]); err != api.OK {
					t.Fatalf("seed %d: Take: %d", seed, err)
				}
				if learned < len(seals) && rng.Intn(5) == 0 {
					learn(t, r, seals[learned])
					learned++
				}
			}
			learn(t, r, seals[learned:]...)
			return r
		}
		a, b := mixed(5), mixed(6)
		if a.Waiting() != 0 || a.Save() != b.Save() {
			t.Fatalf("seed %d: %v, %v", seed, a.Applied(), b.Applied())
		}
		for _, name := range carts() {
			if !cart.Same(a.Read(name), b.Read(name)) {
				t.Errorf("seed %d: Read(%s): %v, %v", seed, name, a.Read(name), b.Read(name))
			}
			for epoch := range a.Epoch(name) {
				x, xWhole := a.Order(name, epoch)
				y, yWhole := b.Order(name, epoch)
				if !cart.Same(x, y) || xWhole != yWhole {
					t.Errorf("seed %d: Order(%s, %d): %v, %v", seed, name, epoch, x, y)
				}
			}
		}
	}
}

func quantity(l []api.Line, sku string) int {
	for _, line := range l {
		if line.Sku == sku {
			return line.Qty
		}
	}
	return 0
}

// P13.6: an addition is read at once, ahead of all else that comes; a setting leaves just itself.
func TestUpdatesAreReadAtOnce(t *testing.T) {
	for seed := range int64(40) {
		rng := rand.New(rand.NewSource(seed))
		all := history(t, rng, 3, 30)
		r := made(t, 3)
		for _, e := range all {
			take(t, r, e, e)
			if rng.Intn(4) == 0 {
				learn(t, r, seal("t", e.Cart, r.Epoch(e.Cart), r.Applied()...))
			}
			name, sku, qty, clears := pick(rng, carts()), pick(rng, skus()), rng.Intn(4), rng.Intn(3) == 0
			wanted := qty
			if !clears {
				wanted += quantity(r.Read(name), sku)
			}
			update(t, r, name, sku, qty, clears)
			if got := quantity(r.Read(name), sku); got != wanted {
				t.Fatalf("seed %d: of %s in %s: %d, not %d", seed, sku, name, got, wanted)
			}
		}
	}
}
