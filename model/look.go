package model

import (
	"cmp"
	"maps"
	"slices"
	"sort"

	"pannier/api"
	"pannier/cut"
	"pannier/vv"
)

// Entries answers how many entries were carried out.
func (m *Model) Entries() int {
	if m.closed() {
		return 0
	}
	return m.Done()
}

// Seals answers those of the orders that the first n entries made.
func (m *Model) Seals(n int) []api.Seal {
	if m.closed() {
		return nil
	}
	return slices.Clone(m.Machine.Seals()[:m.ordersBy(n)])
}

// Cart answers what is in that cart where just that is applied, and the first n entries are learned.
func (m *Model) Cart(cart string, applied []int, n int) []api.Line {
	if m.closed() {
		return nil
	}
	return cut.Open(m.eventsOf(cart, applied), m.sealsOf(cart, n), cart)
}

// Receipt answers what is in the order of that Id, and whether there is one.
func (m *Model) Receipt(id int) ([]api.Line, bool) {
	if m.closed() {
		return nil, false
	}
	o, is := m.Get(id)
	if !is {
		return nil, false
	}
	// What the order's own cut has not belongs to others, or to none.
	return cut.Order(m.eventsOf(o.Cart, o.Cut), m.sealsOf(o.Cart, m.Entries()), o.Cart, o.Epoch), true
}

// Token answers the order of that token, and whether one of the first n entries made it.
func (m *Model) Token(token string, n int) (api.Order, bool) {
	if m.closed() {
		return api.Order{}, false
	}
	o, is := m.Machine.Token(token)
	if !is || o.Id > m.ordersBy(n) {
		return api.Order{}, false
	}
	return o, true
}

// Events answers all events, by rising dots.
func (m *Model) Events() []api.Event {
	if m.closed() {
		return nil
	}
	var events []api.Event
	for _, d := range slices.SortedFunc(maps.Keys(m.events), compareDots) {
		events = append(events, told(m.events[d]))
	}
	return events
}

// ordersBy answers how many orders the first n entries made: all of them, if there are no n.
func (m *Model) ordersBy(n int) int {
	return sort.Search(len(m.made), func(at int) bool { return m.made[at] > n })
}

// eventsOf answers the events of that cart that v has.
func (m *Model) eventsOf(cart string, v []int) []api.Event {
	var events []api.Event
	for _, d := range m.dots[cart] {
		if vv.Has(v, d) {
			events = append(events, m.events[d])
		}
	}
	return events
}

// sealsOf answers the seals of that cart after n entries. Those of others take none of its events.
func (m *Model) sealsOf(cart string, n int) []api.Seal {
	last := m.ordersBy(n)
	var seals []api.Seal
	for _, id := range m.ids[cart] {
		if id > last {
			break
		}
		o, _ := m.Get(id)
		seals = append(seals, api.Seal{Token: o.Token, Cart: o.Cart, Epoch: o.Epoch, Cut: o.Cut})
	}
	return seals
}

// compareDots puts dots by rising origins, those of one by rising numbers.
func compareDots(a, b api.Dot) int {
	return cmp.Or(cmp.Compare(a.Origin, b.Origin), cmp.Compare(a.Seq, b.Seq))
}
