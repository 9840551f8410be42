package audit

import (
	"cmp"
	"slices"
	"sort"

	"pannier/api"
	"pannier/vv"
)

// closedIn answers how to ask whether a vector is closed in the events.
func closedIn(l []api.Event) func(v []int) bool {
	events := eventsByDot(l)
	return func(v []int) bool {
		// This ends behind as many dots as there are events, however many v has: then one has none.
		for d := range vv.Dots(v) {
			own := events[d]
			if len(own) == 0 || slices.ContainsFunc(own, func(e api.Event) bool { return !vv.Below(e.Deps, v) }) {
				return false
			}
		}
		return true
	}
}

// eventsByDot answers the events of each dot.
func eventsByDot(l []api.Event) map[api.Dot][]api.Event {
	dots := map[api.Dot][]api.Event{}
	for _, e := range l {
		dots[e.Dot] = append(dots[e.Dot], e)
	}
	return dots
}

// sealsByCart answers the seals of each cart, so that no event is held against those of others.
func sealsByCart(seals []api.Seal) map[string][]api.Seal {
	carts := map[string][]api.Seal{}
	for _, s := range seals {
		carts[s.Cart] = append(carts[s.Cart], s)
	}
	return carts
}

// atLeastTwo asks whether is holds of two of the seals.
func atLeastTwo(seals []api.Seal, is func(s api.Seal) bool) bool {
	first := slices.IndexFunc(seals, is)
	return first >= 0 && slices.ContainsFunc(seals[first+1:], is)
}

// owner is an origin's part in a cart.
type owner struct {
	cart   string
	origin int
}

func ownerOf(e api.Event) owner {
	return owner{cart: e.Cart, origin: e.Dot.Origin}
}

// tag is the greatest epoch of an owner's events up to a number.
type tag struct {
	seq   int
	epoch int
}

// tagsByOwner answers the tags of each owner, by rising numbers. Events with numbers below 1 are in no vector.
func tagsByOwner(l []api.Event) map[owner][]tag {
	tags := map[owner][]tag{}
	for _, e := range l {
		if e.Dot.Seq >= 1 {
			tags[ownerOf(e)] = append(tags[ownerOf(e)], tag{seq: e.Dot.Seq, epoch: e.Epoch})
		}
	}
	for _, own := range tags {
		slices.SortFunc(own, func(a, b tag) int { return cmp.Compare(a.seq, b.seq) })
		for i := range own[1:] {
			own[i+1].epoch = max(own[i].epoch, own[i+1].epoch)
		}
	}
	return tags
}

// anyAbove asks whether one of an owner's events up to that number has an epoch above that one.
func anyAbove(own []tag, seq, epoch int) bool {
	count := sort.Search(len(own), func(i int) bool { return own[i].seq > seq })
	return count > 0 && own[count-1].epoch > epoch
}

// same asks whether two entries are one.
func same(a, b api.Entry) bool {
	return a.Noop == b.Noop && a.Seal.Token == b.Seal.Token && a.Seal.Cart == b.Seal.Cart &&
		a.Seal.Epoch == b.Seal.Epoch && slices.Equal(a.Seal.Cut, b.Seal.Cut)
}

// compareDots puts dots by rising origins, those of one by rising numbers.
func compareDots(a, b api.Dot) int {
	return cmp.Or(cmp.Compare(a.Origin, b.Origin), cmp.Compare(a.Seq, b.Seq))
}
