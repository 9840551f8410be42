package replica

import (
	"pannier/api"
	"pannier/cut"
	"pannier/vv"
)

// Node answers whose replica it is.
func (r *Replica) Node() int {
	if r.closed() {
		return 0
	}
	return r.node
}

// Applied answers of each origin how many events are applied, plain.
func (r *Replica) Applied() []int {
	if r.closed() {
		return nil
	}
	return r.Log.Applied()
}

// Seals answers all seals, in the order in which they were learned.
func (r *Replica) Seals() []api.Seal {
	if r.closed() {
		return nil
	}
	var all []api.Seal
	for _, s := range r.seals {
		all = append(all, told(s))
	}
	return all
}

// Epoch answers how many seals that cart has.
func (r *Replica) Epoch(cart string) int {
	if r.closed() {
		return 0
	}
	return r.epochs[cart]
}

// Read answers what is in that cart, and in no order.
func (r *Replica) Read(cart string) []api.Line {
	if r.closed() {
		return nil
	}
	return cut.Open(r.eventsOf(cart), r.seals, cart)
}

// Order answers what is in that cart's order of that epoch, as far as it is applied, and whether all of it is.
func (r *Replica) Order(cart string, epoch int) ([]api.Line, bool) {
	if r.closed() {
		return nil, false
	}
	return cut.Order(r.eventsOf(cart), r.seals, cart, epoch), cut.Whole(r.Applied(), r.seals, cart, epoch)
}

// After answers the first most applied events that v has not, by rising origins, of one by rising numbers.
func (r *Replica) After(v []int, most int) []api.Event {
	if r.closed() {
		return nil
	}
	return r.Log.After(v, most)
}

// Waiting answers how many events wait.
func (r *Replica) Waiting() int {
	if r.closed() {
		return 0
	}
	return len(r.Log.Waiting())
}

// eventsOf answers the applied events of that cart. Those of others are in none of its lines, so they need
// not be collected.
func (r *Replica) eventsOf(cart string) []api.Event {
	var events []api.Event
	for e := range r.All() {
		if e.Cart == cart {
			events = append(events, e)
		}
	}
	return events
}

// next is the dot of the origin's first event that is not applied.
func (r *Replica) next(origin int) api.Dot {
	return api.Dot{Origin: origin, Seq: vv.Of(r.Applied(), origin) + 1}
}
