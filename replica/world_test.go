package replica_test

import (
	"testing"

	"pannier/api"
	"pannier/replica"
)

// A small world: the node 0 makes updates, takes those of the node 1, and learns seals, at most 3 events and
// 2 seals in all. Each replica that its calls can make is made; and of all bytes that tell of such events and
// seals just those are loaded that one of these replicas saves.

const (
	worldEvents = 3
	worldSeals  = 2
)

func worldCarts() []string { return []string{"c", "d"} }

// worldSealsOf are all lists of seals that follow.
func worldSealsOf() [][]api.Seal {
	lists := [][]api.Seal{nil}
	for at := 0; at < len(lists); at++ {
		if len(lists[at]) == worldSeals {
			continue
		}
		for _, cart := range worldCarts() {
			epoch := 0
			for _, s := range lists[at] {
				if s.Cart == cart {
					epoch++
				}
			}
			lists = append(lists, append(append([]api.Seal(nil), lists[at]...), seal("t", cart, epoch)))
		}
	}
	return lists
}

// worldEventsOf are all events of that dot: what it had seen of its own node is told by its number.
func worldEventsOf(d api.Dot) []api.Event {
	var l []api.Event
	for seen := range worldEvents {
		deps := []int{d.Seq - 1, seen}
		if d.Origin == 1 {
			deps = []int{seen, d.Seq - 1}
		}
		for len(deps) > 0 && deps[len(deps)-1] == 0 {
			deps = deps[:len(deps)-1]
		}
		for _, cart := range worldCarts() {
			for epoch := range worldSeals + 1 {
				l = append(l, api.Event{Dot: d, Deps: deps, Cart: cart, Epoch: epoch, Sku: "s"})
			}
		}
	}
	return l
}

// reachable are the bytes of all replicas of that world.
func reachable(t *testing.T) map[string]bool {
	found := map[string]bool{}
	work := []*replica.Replica{made(t, 0)}
	see := func(r *replica.Replica) {
		if saved := r.Save(); !found[saved] {
			found[saved] = true
			work = append(work, r)
		}
	}
	for see(work[0]); len(work) > 0; {
		r := work[0]
		work = work[1:]
		for _, cart := range worldCarts() {
			if len(r.Seals()) < worldSeals {
				next := r.Fork()
				learn(t, next, seal("t", cart, r.Epoch(cart)))
				see(next)
			}
			if len(r.After(nil, worldEvents)) < worldEvents {
				next := r.Fork()
				update(t, next, cart, "s", 0, false)
				see(next)
			}
		}
		if len(r.After(nil, worldEvents)) == worldEvents {
			continue
		}
		seq := 1 + len(r.After([]int{worldEvents}, worldEvents))
		for _, e := range worldEventsOf(api.Dot{Origin: 1, Seq: seq}) {
			next := r.Fork()
			if l, err := next.Take(e); len(l) == 1 && err == api.OK {
				see(next)
			}
		}
	}
	return found
}

// candidates goes over all lists of at most worldEvents events without gaps, ahead of which stand those.
func candidates(ahead []api.Event, yield func(l []api.Event)) {
	yield(ahead)
	if len(ahead) == worldEvents {
		return
	}
	next := []api.Dot{{Origin: 0, Seq: 1}, {Origin: 1, Seq: 1}}
	if len(ahead) > 0 {
		last := ahead[len(ahead)-1].Dot
		next[last.Origin].Seq = last.Seq + 1
		next = next[last.Origin:]
	}
	for _, d := range next {
		for _, e := range worldEventsOf(d) {
			candidates(append(ahead[:len(ahead):len(ahead)], e), yield)
		}
	}
}

func TestLoadOfSmallWorld(t *testing.T) {
	found := reachable(t)
	lists := worldSealsOf()
	loaded, refused := 0, 0
	candidates(nil, func(l []api.Event) {
		for _, seals := range lists {
			saved := savedOf(l, seals)
			r, err := replica.Load(0, saved)
			if found[saved] != (err == api.OK) || (r != nil) != (err == api.OK) {
				t.Fatalf("Load of %v, %v: %d; is there such a replica: %v", l, seals, err, found[saved])
			}
			if err == api.OK {
				loaded++
			} else {
				refused++
			}
		}
	})
	if loaded != len(found) || refused < loaded {
		t.Errorf("%d were loaded, of %d; %d were refused", loaded, len(found), refused)
	}
}
