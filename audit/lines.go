package audit

import (
	"maps"
	"slices"

	"pannier/api"
	"pannier/cart"
	"pannier/cut"
	"pannier/model"
)

// share is the part of a cart that is sold in its order of an epoch, or that is not sold.
type share struct {
	cart  string
	sold  bool
	epoch int
}

// linesOf adds up the lines of those shares of a model's events for which wanted holds.
func linesOf(m *model.Model, wanted func(s share) bool) []api.Line {
	var lists [][]api.Line
	for s, events := range shares(m) {
		if wanted(s) {
			lists = append(lists, cart.Lines(events, s.cart))
		}
	}
	return together(lists...)
}

// shares answers the events of each share. Receipts of many orders would hold all events of a cart against all
// of its seals for each of them; here that is done once.
func shares(m *model.Model) map[share][]api.Event {
	carts := sealsByCart(m.Seals(m.Entries()))
	all := map[share][]api.Event{}
	for _, e := range m.Events() {
		epoch, sold := cut.Belongs(e, carts[e.Cart])
		s := share{cart: e.Cart, sold: sold, epoch: epoch}
		all[s] = append(all[s], e)
	}
	return all
}

// together adds up the lines of as many lists as there are, by rising articles.
func together(lists ...[]api.Line) []api.Line {
	sums := map[string]int{}
	for _, l := range lists {
		for _, line := range l {
			sums[line.Sku] += line.Qty
		}
	}
	var lines []api.Line
	for _, sku := range slices.Sorted(maps.Keys(sums)) {
		lines = append(lines, api.Line{Sku: sku, Qty: sums[sku]})
	}
	return lines
}
