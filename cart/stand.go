package cart

import (
	"slices"

	"pannier/api"
	"pannier/vv"
)

// Stand answers the events of l that go by none of l, in l's order.
func Stand(l []api.Event) []api.Event {
	return told(standing(l))
}

func standing(l []api.Event) []api.Event {
	found := lookouts(l)
	return chosen(l, func(e api.Event) bool {
		t := found[sight{e.Cart, e.Sku, e.Dot.Origin}]
		return !goesBy(e, t.first) && !goesBy(e, t.second)
	})
}

// goesBy asks whether e goes by f.
func goesBy(e, f api.Event) bool {
	return f.Clears && f.Cart == e.Cart && f.Sku == e.Sku && vv.Has(f.Deps, e.Dot) && !same(e, f)
}

// same asks whether a and b are one event that is there twice. Two events of one dot may be others.
func same(a, b api.Event) bool {
	return a.Dot == b.Dot && a.Cart == b.Cart && a.Epoch == b.Epoch && a.Sku == b.Sku &&
		a.Qty == b.Qty && a.Clears == b.Clears && slices.Equal(a.Deps, b.Deps)
}

// sight is an article in a cart, and an origin whose updates of it may have been seen.
type sight struct {
	cart, sku string
	origin    int
}

// two are clearing events of a sight: the first one had seen most of the origin's updates, the second one
// most of all others than the first. An event of the origin that goes by any goes by one of these: by the
// first, or, if it is that one itself, by the second. So nobody has to be held against all.
type two struct {
	first, second api.Event
}

func lookouts(l []api.Event) map[sight]two {
	found := map[sight]two{}
	for _, f := range l {
		if !f.Clears {
			continue
		}
		for origin, n := range f.Deps {
			if n > 0 {
				at := sight{f.Cart, f.Sku, origin}
				found[at] = found[at].with(f, origin)
			}
		}
	}
	return found
}

// with answers t, if f is looked at too. An event that is there twice matters for its own origin alone:
// at all others nobody is held against itself.
func (t two) with(f api.Event, origin int) two {
	seen := func(e api.Event) int { return vv.Of(e.Deps, origin) }
	switch {
	case f.Dot.Origin == origin && same(f, t.first):
	case seen(f) > seen(t.first):
		t.first, t.second = f, t.first
	case seen(f) > seen(t.second):
		t.second = f
	}
	return t
}
