package cart_test

import (
	"math"
	"reflect"
	"slices"
	"testing"

	"pannier/api"
	"pannier/cart"
)

// adds is an addition of tea to the cart c.
func adds(origin, seq, qty int, deps ...int) api.Event {
	return api.Event{Dot: api.Dot{Origin: origin, Seq: seq}, Deps: deps, Cart: "c", Sku: "tea", Qty: qty}
}

// sets is a setting of tea in the cart c; of 0: a removal.
func sets(origin, seq, qty int, deps ...int) api.Event {
	e := adds(origin, seq, qty, deps...)
	e.Clears = true
	return e
}

// of is e, but of another cart and article.
func of(name, sku string, e api.Event) api.Event {
	e.Cart, e.Sku = name, sku
	return e
}

func tea(qty int) []api.Line { return []api.Line{{Sku: "tea", Qty: qty}} }

func sameEvent(a, b api.Event) bool {
	if !slices.Equal(a.Deps, b.Deps) {
		return false
	}
	a.Deps, b.Deps = nil, nil
	return reflect.DeepEqual(a, b)
}

func wantEvents(t *testing.T, what string, got, wanted []api.Event) {
	t.Helper()
	if !slices.EqualFunc(got, wanted, sameEvent) {
		t.Errorf("%s: %v, not %v", what, got, wanted)
	}
}

func wantLines(t *testing.T, what string, got, wanted []api.Line) {
	t.Helper()
	if !slices.Equal(got, wanted) {
		t.Errorf("%s: %v, not %v", what, got, wanted)
	}
}

// stands is a list of events, those of them (their places) that stand, and the lines of the cart c.
type stands struct {
	what   string
	l      []api.Event
	places []int
	lines  []api.Line
}

func (k stands) check(t *testing.T) {
	t.Helper()
	var wanted []api.Event
	for _, at := range k.places {
		wanted = append(wanted, k.l[at])
	}
	wantEvents(t, "Stand: "+k.what, cart.Stand(k.l), wanted)
	wantLines(t, "Lines: "+k.what, cart.Lines(k.l, "c"), k.lines)
}

func TestStandAndLines(t *testing.T) {
	for _, k := range []stands{
		{"nothing", nil, nil, nil},
		{"an empty list", []api.Event{}, nil, nil},
		{"an addition", []api.Event{adds(0, 1, 2)}, []int{0}, tea(2)},
		{"two that did not know of one another", []api.Event{adds(0, 1, 1), adds(1, 1, 1)}, []int{0, 1}, tea(2)},
		{"an addition clears nothing that it had seen", []api.Event{adds(0, 1, 1), adds(1, 1, 1, 1)}, []int{0, 1}, tea(2)},
		{"the document's example", []api.Event{adds(0, 1, 2), adds(1, 1, 1), sets(0, 2, 0, 1)}, []int{1, 2}, tea(1)},
		{"a removal that had seen all", []api.Event{adds(0, 1, 2), adds(1, 1, 1), sets(0, 2, 0, 1, 1)}, []int{2}, nil},
		{"a removal that had seen none", []api.Event{adds(0, 1, 2), sets(1, 1, 0)}, []int{0, 1}, tea(2)},
		{"a removal alone", []api.Event{sets(0, 1, 0)}, []int{0}, nil},
		{"a setting", []api.Event{adds(0, 1, 2), adds(1, 1, 1), sets(0, 2, 5, 1)}, []int{1, 2}, tea(6)},
		{"settings that had not seen one another", []api.Event{adds(2, 1, 9), sets(0, 1, 3, 0, 0, 1), sets(1, 1, 4, 0, 0, 1)}, []int{1, 2}, tea(7)},
		{"a setting that had seen the other one", []api.Event{sets(0, 1, 3), sets(1, 1, 4, 1)}, []int{1}, tea(4)},
		{"settings that had seen each other", []api.Event{sets(0, 1, 3, 0, 1), sets(1, 1, 4, 1)}, nil, nil},
		{"what went still clears", []api.Event{adds(0, 1, 1), sets(1, 1, 2, 1), sets(2, 1, 3, 0, 1)}, []int{2}, tea(3)},
		{"numbers up to that which was seen", []api.Event{adds(0, 1, 1), adds(0, 2, 10), adds(0, 3, 100), sets(1, 1, 0, 2)}, []int{2, 3}, tea(100)},
		{"it clears what stands behind it too", []api.Event{sets(1, 1, 0, 1), adds(0, 1, 1)}, []int{0}, nil},
		{"the furthest of many", []api.Event{adds(0, 5, 1), sets(1, 1, 0, 2), sets(1, 2, 0, 5, 1), sets(1, 3, 0, 3, 2)}, []int{3}, nil},
		{"another article", []api.Event{adds(0, 1, 1), of("c", "jam", sets(1, 1, 0, 1))}, []int{0, 1}, tea(1)},
		{"another cart", []api.Event{adds(0, 1, 1), of("d", "tea", sets(1, 1, 7, 1))}, []int{0, 1}, tea(1)},
		{"an article whose name goes on", []api.Event{adds(0, 1, 1), of("c", "tea2", sets(1, 1, 7, 1))}, []int{0, 1}, []api.Line{{Sku: "tea", Qty: 1}, {Sku: "tea2", Qty: 7}}},
		{"names that are the same put together", []api.Event{of("c", "ct", adds(0, 1, 1)), of("cc", "t", sets(1, 1, 7, 1))}, []int{0, 1}, []api.Line{{Sku: "ct", Qty: 1}}},
		{"another epoch matters not", []api.Event{{Dot: api.Dot{Seq: 1}, Cart: "c", Epoch: 3, Sku: "tea", Qty: 1}, sets(1, 1, 0, 1)}, []int{1}, nil},
	} {
		k.check(t)
	}
}

func TestSumsOfNothing(t *testing.T) {
	for _, k := range []stands{
		{"0", []api.Event{adds(0, 1, 0)}, []int{0}, nil},
		{"below 0", []api.Event{adds(0, 1, -3)}, []int{0}, nil},
		{"0 together", []api.Event{adds(0, 1, 3), adds(0, 2, -3)}, []int{0, 1}, nil},
		{"1 together", []api.Event{adds(0, 1, 3), adds(0, 2, -2)}, []int{0, 1}, tea(1)},
		{"-1 together", []api.Event{adds(0, 1, 3), adds(0, 2, -4)}, []int{0, 1}, nil},
		{"above MaxQty", []api.Event{adds(0, 1, api.MaxQty), adds(0, 2, api.MaxQty), adds(1, 1, 99999)}, []int{0, 1, 2}, tea(101999)},
		{"the greatest", []api.Event{adds(0, 1, math.MaxInt), adds(0, 2, 1), adds(1, 1, -1)}, []int{0, 1, 2}, tea(math.MaxInt)},
		{"others stay", []api.Event{of("c", "jam", adds(0, 1, -1)), adds(0, 2, 2), of("c", "zoo", adds(0, 3, 0))}, []int{0, 1, 2}, tea(2)},
	} {
		k.check(t)
	}
}

// Of each dot the first event that stands counts.
func TestEventsOfOneDot(t *testing.T) {
	self, other := sets(0, 1, 4, 1), sets(0, 1, 5, 1)
	for _, k := range []stands{
		{"the same twice", []api.Event{adds(0, 1, 2), adds(0, 1, 2), adds(1, 1, 1), adds(0, 1, 2)}, []int{0, 1, 2, 3}, tea(3)},
		{"the first of two", []api.Event{adds(0, 1, 2), adds(0, 1, 9)}, []int{0, 1}, tea(2)},
		{"the first of two, the other way", []api.Event{adds(0, 1, 9), adds(0, 1, 2)}, []int{0, 1}, tea(9)},
		{"of two articles", []api.Event{of("c", "jam", adds(0, 1, 2)), adds(0, 1, 9)}, []int{0, 1}, []api.Line{{Sku: "jam", Qty: 2}}},
		{"the first one goes", []api.Event{of("c", "jam", adds(0, 1, 2)), adds(0, 1, 9), of("c", "jam", sets(1, 1, 0, 1))}, []int{1, 2}, tea(9)},
		{"both go", []api.Event{adds(0, 1, 2), adds(0, 1, 9), sets(1, 1, 0, 1)}, []int{2}, nil},
		{"the first one is of another cart", []api.Event{of("d", "tea", adds(0, 1, 2)), adds(0, 1, 9)}, []int{0, 1}, tea(9)},
		{"a clearing one twice", []api.Event{adds(1, 1, 1), sets(0, 1, 4, 0, 1), sets(0, 1, 4, 0, 1)}, []int{1, 2}, tea(4)},
		{"one that had seen itself", []api.Event{self}, []int{0}, tea(4)},
		{"twice", []api.Event{self, self}, []int{0, 1}, tea(4)},
		{"and what it had seen", []api.Event{adds(0, 1, 8), self, self}, []int{1, 2}, tea(4)},
		{"two that had seen themselves", []api.Event{self, other, self}, nil, nil},
		{"one that had, one that had not", []api.Event{sets(0, 1, 6), self}, []int{1}, tea(4)},
		{"further on", []api.Event{sets(0, 1, 1, 9), sets(0, 2, 1, 9), sets(0, 2, 1, 9), sets(0, 3, 3, 7)}, nil, nil},
		{"the furthest one alone", []api.Event{sets(0, 7, 1, 9), sets(0, 7, 1, 9), sets(0, 6, 2, 5), sets(0, 5, 3, 6)}, []int{0, 1}, tea(1)},
	} {
		k.check(t)
	}
}

// Two events of one dot that differ in just one part are others.
func TestAnotherOneOfADot(t *testing.T) {
	self := sets(0, 1, 4, 1)
	for what, change := range map[string]func(e *api.Event){
		"Qty":        func(e *api.Event) { e.Qty = 5 },
		"Epoch":      func(e *api.Event) { e.Epoch = 1 },
		"Deps":       func(e *api.Event) { e.Deps = []int{1, 1} },
		"other Deps": func(e *api.Event) { e.Deps = []int{2} },
	} {
		other := self
		change(&other)
		stands{what, []api.Event{self, other}, nil, nil}.check(t)
		stands{what, []api.Event{other, self}, nil, nil}.check(t)
	}
	plain := adds(0, 1, 4, 1)
	stands{"Clears", []api.Event{self, plain}, []int{0}, tea(4)}.check(t)
	stands{"Clears", []api.Event{plain, self}, []int{1}, tea(4)}.check(t)
	jam := of("c", "jam", self)
	stands{"Sku", []api.Event{self, jam}, []int{0, 1}, tea(4)}.check(t)
	stands{"Cart", []api.Event{of("d", "tea", self), self}, []int{0, 1}, tea(4)}.check(t)
	empty := sets(0, 1, 4)
	empty.Deps = []int{}
	stands{"nil is the empty list", []api.Event{sets(0, 1, 4), empty}, []int{0, 1}, tea(4)}.check(t)
}

// What may not be is looked at as the words say, and nothing panics.
func TestEventsThatMayNotBe(t *testing.T) {
	long := make([]int, 100)
	long[99] = 3
	for _, k := range []stands{
		{"no such dot", []api.Event{adds(0, 0, 1), adds(0, -1, 1), adds(-1, 1, 1), adds(math.MinInt, math.MinInt, 1), sets(9, 9, 1, 5, 5)}, []int{0, 1, 2, 3, 4}, tea(5)},
		{"numbers below 0", []api.Event{adds(0, 1, 1), adds(1, -2, 1), sets(2, 1, 1, -5, -1, 1)}, []int{0, 1, 2}, tea(3)},
		{"an origin far out", []api.Event{adds(99, 3, 1), adds(99, 4, 1), adds(100, 1, 1), sets(math.MaxInt, math.MaxInt, 1, long...)}, []int{1, 2, 3}, tea(3)},
		{"the greatest number", []api.Event{adds(0, math.MaxInt, 1), sets(1, 1, 1, math.MaxInt)}, []int{1}, tea(1)},
		{"no article", []api.Event{of("c", "", adds(0, 1, 1)), of("c", "", sets(1, 1, 2, 1))}, []int{1}, []api.Line{{Qty: 2}}},
	} {
		k.check(t)
	}
	l := []api.Event{{}, of("", "x", adds(1, 1, 3)), of("C!", "Ä", adds(1, 2, 3))}
	wantLines(t, "no name", cart.Lines(l, ""), []api.Line{{Sku: "x", Qty: 3}})
	wantLines(t, "another name", cart.Lines(l, "C!"), []api.Line{{Sku: "Ä", Qty: 3}})
	wantLines(t, "a cart that is not there", cart.Lines(l, "c"), nil)
	wantLines(t, "of nothing", cart.Lines(nil, ""), nil)
	wantEvents(t, "Stand", cart.Stand(l), l)
}

// Lines are by rising bytes.
func TestLinesAreSorted(t *testing.T) {
	skus := []string{"-", "-a", "0", "10", "9", "A", "a", "a-", "a0", "aa", "ab", "b", "z", "zz", "\xc3\xa4", "\xff"}
	var l []api.Event
	var wanted []api.Line
	for i, sku := range skus {
		l = append(l, of("c", sku, adds(i%3, i+1, i+1)))
		wanted = append(wanted, api.Line{Sku: sku, Qty: i + 1})
	}
	slices.Reverse(l)
	wantLines(t, "Lines", cart.Lines(l, "c"), wanted)
	slices.SortFunc(l, func(a, b api.Event) int { return a.Dot.Seq%5 - b.Dot.Seq%5 })
	wantLines(t, "Lines", cart.Lines(l, "c"), wanted)
}

func TestCarts(t *testing.T) {
	name := func(names ...string) []api.Event {
		var l []api.Event
		for i, n := range names {
			l = append(l, of(n, "tea", adds(0, i+1, 1)))
		}
		return l
	}
	for _, k := range []struct {
		l      []api.Event
		wanted []string
	}{
		{nil, nil},
		{name("c"), []string{"c"}},
		{name("c", "c", "c"), []string{"c"}},
		{name("d", "c", "d", "a-1", "c", "a1", "a", "-"), []string{"-", "a", "a-1", "a1", "c", "d"}},
		{name("z", "", "B", "\xff"), []string{"", "B", "z", "\xff"}},
		{[]api.Event{adds(0, 1, 1), sets(0, 2, 0, 1), of("b", "tea", adds(0, 3, 0))}, []string{"b", "c"}}, // also where nothing is left
	} {
		if got := cart.Carts(k.l); !slices.Equal(got, k.wanted) {
			t.Errorf("Carts: %q, not %q", got, k.wanted)
		}
	}
}

func TestSameAndTotal(t *testing.T) {
	two := []api.Line{{Sku: "jam", Qty: 1}, {Sku: "tea", Qty: 2}}
	lists := [][]api.Line{nil, tea(2), tea(3), {{Sku: "jam", Qty: 2}}, two, {two[1], two[0]}, {two[0]}, {two[0], two[1], two[1]}, {{}}, {two[0], {Sku: "tea", Qty: -2}}}
	totals := []int{0, 2, 3, 2, 3, 3, 1, 5, 0, -1}
	for i, a := range lists {
		for j, b := range lists {
			if cart.Same(a, slices.Clone(b)) != (i == j) {
				t.Errorf("Same(%v, %v): %v", a, b, i != j)
			}
		}
		if n := cart.Total(a); n != totals[i] {
			t.Errorf("Total(%v): %d, not %d", a, n, totals[i])
		}
	}
	if !cart.Same(nil, []api.Line{}) || !cart.Same([]api.Line{}, nil) || cart.Total([]api.Line{}) != 0 {
		t.Error("nil is not the empty list")
	}
}
