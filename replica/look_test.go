package replica_test

import (
	"math"
	"slices"
	"testing"

	"pannier/api"
	"pannier/replica"
)

// busy is a replica of the node 1 with events of three nodes in two carts, two seals, and one event that waits.
func busy(t *testing.T) *replica.Replica {
	t.Helper()
	r := made(t, 1)
	update(t, r, "c", "tea", 2, false)
	take(t, r, event(0, 1), event(0, 1))
	take(t, r, event(0, 2, 1), event(0, 2, 1))
	learn(t, r, seal("t", "c", 0, 1, 1), seal("u", "d", 0))
	update(t, r, "c", "jam", 4, false)
	update(t, r, "d", "milk", 5, false)
	take(t, r, event(3, 1, 2), event(3, 1, 2))
	take(t, r, event(5, 3, 0, 0, 0, 0, 0, 2))
	return r
}

func TestRead(t *testing.T) {
	r := busy(t)
	wantLines(t, "c", r.Read("c"), "jam", 4, "tea", 2)
	wantLines(t, "d", r.Read("d"), "milk", 5)
	for _, cart := range append(wrongNames(), "e", "tea") {
		wantLines(t, cart, r.Read(cart))
	}
	update(t, r, "c", "tea", 0, true)
	wantLines(t, "tea was taken out", r.Read("c"), "jam", 4)
	update(t, r, "d", "milk", 7, true)
	wantLines(t, "milk was set", r.Read("d"), "milk", 7)
	learn(t, r, seal("v", "c", 1, r.Applied()...))
	wantLines(t, "all is ordered", r.Read("c"))
}

// An order has what of its cut is applied, and is whole when all is.
func TestOrder(t *testing.T) {
	r := busy(t)
	lines, whole := r.Order("c", 0)
	wantLines(t, "the first order", lines, "tea", 3)
	if !whole {
		t.Error("the first order is whole")
	}
	lines, whole = r.Order("d", 0)
	wantLines(t, "an order of nothing", lines)
	if !whole {
		t.Error("an order of nothing is whole")
	}
	for _, epoch := range []int{-1, 1, 2, math.MinInt, math.MaxInt} {
		if lines, whole := r.Order("c", epoch); len(lines) != 0 || whole {
			t.Errorf("Order(c, %d), that is none: %v, %v", epoch, lines, whole)
		}
	}
	for _, cart := range append(wrongNames(), "e") {
		if lines, whole := r.Order(cart, 0); len(lines) != 0 || whole {
			t.Errorf("Order(%q, 0), that is none: %v, %v", cart, lines, whole)
		}
	}
	learn(t, r, seal("w", "c", 1, 3, 3))
	lines, whole = r.Order("c", 1)
	wantLines(t, "the second order, as far as it is there", lines, "jam", 4, "tea", 1)
	if whole {
		t.Error("the second order is not whole yet")
	}
	late := event(0, 3, 2)
	take(t, r, late, late)
	lines, whole = r.Order("c", 1)
	wantLines(t, "the second order", lines, "jam", 4, "tea", 2)
	if !whole {
		t.Error("the second order is whole")
	}
	wantLines(t, "what comes too late goes on in the cart", r.Read("c"), "tea", 1)
}

// An event of a later epoch than a seal's is in none of its orders, though the cut has its dot.
func TestOrderOfEpochs(t *testing.T) {
	r := made(t, 0)
	e := event(1, 1)
	e.Epoch = 1
	take(t, r, e, e)
	learn(t, r, seal("t", "c", 0, 0, 1))
	lines, whole := r.Order("c", 0)
	wantLines(t, "Order(c, 0)", lines)
	wantLines(t, "Read", r.Read("c"), "tea", 1)
	learn(t, r, seal("u", "c", 1, 0, 1))
	lines, second := r.Order("c", 1)
	wantLines(t, "Order(c, 1)", lines, "tea", 1)
	if !whole || !second {
		t.Error("both are whole:", whole, second)
	}
}

func TestAfter(t *testing.T) {
	r := busy(t)
	all := r.After(nil, api.MaxDots)
	dots := func(l []api.Event) []api.Dot {
		var out []api.Dot
		for _, e := range l {
			out = append(out, e.Dot)
		}
		return out
	}
	wanted := []api.Dot{{Origin: 0, Seq: 1}, {Origin: 0, Seq: 2}, {Origin: 1, Seq: 1}, {Origin: 1, Seq: 2}, {Origin: 1, Seq: 3}, {Origin: 3, Seq: 1}}
	if got := dots(all); !slices.Equal(got, wanted) {
		t.Fatalf("After(nil): %v, not %v", got, wanted)
	}
	for most := range len(wanted) + 2 {
		if got := dots(r.After([]int{}, most)); !slices.Equal(got, wanted[:min(most, len(wanted))]) {
			t.Errorf("the first %d: %v", most, got)
		}
	}
	for _, most := range []int{0, -1, math.MinInt} {
		if got := r.After(nil, most); len(got) != 0 {
			t.Errorf("the first %d: %v", most, got)
		}
	}
	if got := dots(r.After([]int{1, 2}, math.MaxInt)); !slices.Equal(got, []api.Dot{wanted[1], wanted[4], wanted[5]}) {
		t.Error("After(1, 2):", got)
	}
	if got := r.After([]int{9, 9, 9, 9, 9, 9, 9, 9, 9}, 9); len(got) != 0 {
		t.Error("After what has all:", got)
	}
	if got := dots(r.After([]int{-5, math.MinInt, math.MaxInt}, 9)); !slices.Equal(got, wanted) {
		t.Error("After what has less than nothing:", got)
	}
}

// Looking changes nothing.
func TestLooking(t *testing.T) {
	r := busy(t)
	unchanged(t, r, func() {
		for range 2 {
			r.Node()
			r.Applied()
			r.Seals()
			r.Epoch("new")
			r.Read("new")
			r.Order("new", 0)
			r.After(nil, 3)
			r.Save()
			r.Fork()
		}
	})
	if n := r.Waiting(); n != 1 {
		t.Error("Waiting:", n)
	}
}
