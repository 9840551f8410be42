package audit_test

import (
	"math"
	"slices"
	"testing"

	"pannier/api"
	"pannier/audit"
	"pannier/model"
)

func TestExample(t *testing.T) {
	l := events(event(0, 1), event(0, 2, 1))
	wantClosed(t, "both", l, []int{2}, true)
	wantClosed(t, "of another origin", l, []int{0, 1}, false)
}

func TestClosed(t *testing.T) {
	l := events(event(0, 1), event(0, 2, 1), event(1, 1, 1), event(1, 2, 1, 1, 0), event(2, 1, 2, 2))
	for _, x := range []struct {
		what   string
		v      []int
		wanted bool
	}{
		{"nothing", nil, true},
		{"noughts", []int{0, 0, 0}, true},
		{"an event without Deps", []int{1}, true},
		{"and noughts behind", []int{1, 0, 0, 0}, true},
		{"its own ones", []int{2}, true},
		{"Deps that are below", []int{1, 1}, true},
		{"noughts at the end of Deps", []int{1, 2}, true},
		{"Deps that are not below", []int{0, 1}, false},
		{"all", []int{2, 2, 1}, true},
		{"all but one that the last had seen", []int{2, 1, 1}, false},
		{"all but another one", []int{1, 2, 1}, false},
		{"a dot of which there is no event", []int{3}, false},
		{"one more of the last origin", []int{2, 2, 2}, false},
		{"one of another origin", []int{1, 0, 0, 1}, false},
		{"of an origin that may not be", []int{1, 0, 0, 0, 0, 0, 0, 0, 1}, false},
		{"more dots than there are events", []int{6}, false},
		{"as many dots as there are events", []int{5}, false},
		{"many more", []int{math.MaxInt}, false},
		{"more than can be counted", []int{math.MaxInt, math.MaxInt, 2}, false},
		{"numbers below 0", []int{-1}, true},
		{"the least number", []int{math.MinInt, -7}, true},
		{"a number below 0 beside others", []int{1, -1}, false}, // the Deps have 0 there
	} {
		wantClosed(t, x.what, l, x.v, x.wanted)
	}
	wantClosed(t, "no events", nil, nil, true)
	wantClosed(t, "no events", nil, []int{1}, false)
	wantClosed(t, "no events", nil, []int{0}, true)
}

// TestClosedOfAnyEvents: which are there twice, in another order, of other carts, or may not be.
func TestClosedOfAnyEvents(t *testing.T) {
	a, b := event(0, 1), event(1, 1, 1)
	wantClosed(t, "the last one first", events(b, a), []int{1, 1}, true)
	wantClosed(t, "of two carts", events(in("d", a), b), []int{1, 1}, true)
	wantClosed(t, "the same one twice", events(a, a, b), []int{1, 1}, true)
	wantClosed(t, "the same one twice in the stead of another", events(a, a), []int{1, 1}, false)
	wantClosed(t, "the same one twice in the stead of the next", events(a, a), []int{2}, false)
	other := event(1, 1, 1, 0, 1)
	wantClosed(t, "another one of its dot", events(a, b, other), []int{1, 1}, false)
	wantClosed(t, "another one ahead of it", events(a, other, b), []int{1, 1}, false)
	wantClosed(t, "another one that is not in it", events(a, b, other), []int{1}, true)
	wantClosed(t, "an event without its own Deps", events(event(0, 1, 1)), []int{1}, true)
	wantClosed(t, "what had seen what is behind", events(event(0, 1, 2), event(0, 2)), []int{1}, false)
	wantClosed(t, "and that", events(event(0, 1, 2), event(0, 2)), []int{2}, true)
	wantClosed(t, "Deps below 0", events(event(0, 1, 0, -1)), []int{1}, true)
	wantClosed(t, "Deps of an origin that may not be", events(event(0, 1, 0, 0, 0, 0, 0, 0, 0, 1)), []int{1}, false)
	wantClosed(t, "dots that may not be", events(event(-1, 1), event(0, 0), event(0, -1), event(1, 0)), []int{1}, false)
	wantClosed(t, "dots that may not be", events(event(-1, 1), event(0, 0), event(0, -1), a), []int{1}, true)
	wantClosed(t, "of a ninth origin", events(event(8, 1)), []int{0, 0, 0, 0, 0, 0, 0, 0, 1}, true)
}

func TestCuts(t *testing.T) {
	l := events(event(0, 1), event(0, 2, 1), event(1, 1, 1))
	good, open := seal("c", 0, 1, 1), seal("c", 1, 0, 1)
	wantCuts(t, "no seals", l, nil, 0, true)
	wantCuts(t, "an empty list", l, seals(), 0, true)
	wantCuts(t, "one", l, seals(good), 1, true)
	wantCuts(t, "three", l, seals(good, seal("d", 0), seal("c", 1, 2, 1)), 3, true)
	wantCuts(t, "the first one is not", l, seals(open), 0, false)
	wantCuts(t, "the first of two", l, seals(open, good), 0, false)
	wantCuts(t, "the last of two", l, seals(good, open), 1, false)
	wantCuts(t, "two of four", l, seals(good, good, open, open), 2, false)
	wantCuts(t, "of a cart without events", l, seals(good, seal("x", 0, 0, 1)), 1, false)
	wantCuts(t, "a dot of which there is no event", l, seals(good, seal("c", 1, 3)), 1, false)
	wantCuts(t, "more dots than events", l, seals(seal("c", 0, math.MaxInt)), 0, false)
	wantCuts(t, "no events", nil, seals(seal("c", 0), good), 1, false)
	wantCuts(t, "seals that do not follow", l, seals(seal("c", 5, 1), seal("", -1, 2)), 2, true)
}

func TestAgree(t *testing.T) {
	noop := api.Entry{Noop: true}
	entry := func(s api.Seal) api.Entry { return api.Entry{Seal: s} }
	a, b := entry(seal("c", 0, 1, 1)), entry(seal("c", 1, 2))
	log := func(l ...api.Entry) []api.Entry { return l }
	wantAgree(t, "nothing", nil, nil, 0, true)
	wantAgree(t, "nothing, and something", nil, log(a), 0, true)
	wantAgree(t, "nothing, and an empty list", nil, log(), 0, true)
	wantAgree(t, "the same", log(noop, a, b), log(noop, a, b), 3, true)
	wantAgree(t, "the beginning", log(noop, a), log(noop, a, b), 2, true)
	wantAgree(t, "another first one", log(a), log(noop), 0, false)
	wantAgree(t, "another last one", log(noop, a, b), log(noop, a, noop), 2, false)
	wantAgree(t, "another one between", log(noop, a, b), log(noop, b, b), 1, false)
	wantAgree(t, "another one, and more", log(noop, a), log(noop, b, a, b), 1, false)
	wantAgree(t, "another one where the other ends", log(noop, a), log(noop), 1, true)
	for what, change := range map[string]func(e *api.Entry){
		"Noop":           func(e *api.Entry) { e.Noop = true },
		"Token":          func(e *api.Entry) { e.Seal.Token = "x" },
		"Cart":           func(e *api.Entry) { e.Seal.Cart = "x" },
		"Epoch":          func(e *api.Entry) { e.Seal.Epoch = 7 },
		"Cut":            func(e *api.Entry) { e.Seal.Cut = []int{1, 2} },
		"a shorter Cut":  func(e *api.Entry) { e.Seal.Cut = []int{1} },
		"a Cut of none":  func(e *api.Entry) { e.Seal.Cut = nil },
		"a further Cut":  func(e *api.Entry) { e.Seal.Cut = []int{1, 1, 1} },
		"all but Noop":   func(e *api.Entry) { e.Seal = api.Seal{} },
		"the other seal": func(e *api.Entry) { e.Seal = b.Seal },
	} {
		other := entry(seal("c", 0, 1, 1))
		wantAgree(t, "a copy", log(a, b), log(other, b), 2, true)
		change(&other)
		wantAgree(t, what, log(a, b), log(other, b), 0, false)
	}
	empty := entry(seal("c", 0))
	empty.Seal.Cut = []int{}
	wantAgree(t, "nil and the empty list", log(entry(seal("c", 0))), log(empty), 1, true)
}

func TestTwice(t *testing.T) {
	a, b := event(0, 1), event(1, 1, 1)
	first, second := seal("c", 0, 1), seal("c", 1, 1, 1)
	wantTwice(t, "nothing", nil, nil)
	wantTwice(t, "no seals", events(a, b), nil)
	wantTwice(t, "no events", nil, seals(first, second))
	wantTwice(t, "one seal", events(a, b), seals(second))
	wantTwice(t, "two of one", events(a, b), seals(first, second), a.Dot)
	wantTwice(t, "two of both", events(a, b), seals(second, seal("c", 2, 1, 1)), a.Dot, b.Dot)
	wantTwice(t, "three", events(a), seals(first, second, seal("c", 2, 1)), a.Dot)
	wantTwice(t, "the last two of three", events(a), seals(seal("c", 0), second, seal("c", 2, 1)), a.Dot)
	wantTwice(t, "the first and the last of three", events(b), seals(second, seal("c", 0, 1), seal("c", 2, 0, 1)), b.Dot)
	wantTwice(t, "the same seal twice", events(a), seals(first, first), a.Dot)
	wantTwice(t, "cuts that have another dot each", events(a, b), seals(seal("c", 0, 1), seal("c", 1, 0, 1)))
	wantTwice(t, "of another cart", events(in("d", a)), seals(first, second))
	wantTwice(t, "one of another cart", events(a), seals(first, seal("d", 0, 1)))
	wantTwice(t, "each of its own cart", events(a, in("d", b)), seals(first, seal("d", 0, 1, 1), second, seal("d", 1, 1, 1)), a.Dot, b.Dot)
}

// TestTwiceByEpochs: a seal's at, above and below the event's.
func TestTwiceByEpochs(t *testing.T) {
	e := tagged(3, event(0, 2, 1))
	for _, x := range []struct {
		first, second int
		twice         bool
	}{{3, 4, true}, {3, 3, true}, {4, 3, true}, {4, 9, true}, {2, 3, false}, {3, 2, false}, {2, 4, false}, {0, 2, false}, {-1, math.MaxInt, false}, {3, math.MaxInt, true}} {
		var wanted []api.Dot
		if x.twice {
			wanted = append(wanted, e.Dot)
		}
		wantTwice(t, "epochs", events(e), seals(seal("c", x.first, 2), seal("c", x.second, 5)), wanted...)
	}
	wantTwice(t, "one of three is below", events(e), seals(seal("c", 2, 2), seal("c", 3, 2), seal("c", 4, 2)), e.Dot)
	wantTwice(t, "two of three are below", events(e), seals(seal("c", 1, 2), seal("c", 2, 2), seal("c", 3, 2)))
	wantTwice(t, "an Epoch below 0", events(tagged(-5, e)), seals(seal("c", -5, 2), seal("c", -4, 2)), e.Dot)
}

// TestTwiceInOrder: by rising dots, each once, also of dots that have more than one event.
func TestTwiceInOrder(t *testing.T) {
	both := seals(seal("c", 0, 20, 20, 20), seal("c", 1, 20, 20, 20))
	l := events(event(1, 2), event(0, 10), event(2, 1), event(1, 10), event(0, 9), event(1, 2), event(0, 10))
	wantTwice(t, "any order", l, both, dot(0, 9), dot(0, 10), dot(1, 2), dot(1, 10), dot(2, 1))
	wantTwice(t, "another one of its dot", events(in("d", event(0, 1)), event(0, 1)), both, dot(0, 1))
	wantTwice(t, "the other one alone", events(tagged(1, event(0, 1)), in("d", event(0, 1))), both)
	wantTwice(t, "one of the two carts each", events(event(0, 1), in("d", event(0, 1))), seals(seal("c", 0, 1), seal("d", 0, 1)))
	wantTwice(t, "dots that may not be", events(event(0, 0), event(-1, 1), event(0, -1), event(3, 1), event(0, 21)), both)
}

func TestSalesAndLeft(t *testing.T) {
	l := events(
		adds("tea", 2, event(0, 1)),
		adds("jam", 3, event(0, 2, 1)),
		adds("tea", 5, in("d", event(0, 3, 2))),
		adds("ale", 7, tagged(1, event(0, 4, 3))),
		adds("tea", 11, event(1, 1)),
		adds("tea", 13, in("e", event(1, 2, 0, 1))),
	)
	m := having(t, l)
	wantSales(t, "no orders", m)
	wantLeft(t, "no orders", m, line("ale", 7), line("jam", 3), line("tea", 31))
	m = having(t, l, seal("c", 0, 2))
	wantSales(t, "an order", m, line("jam", 3), line("tea", 2))
	wantLeft(t, "an order", m, line("ale", 7), line("tea", 29))
	m = having(t, l, seal("c", 0, 2), seal("d", 0, 3), seal("c", 1, 4))
	wantSales(t, "three orders", m, line("ale", 7), line("jam", 3), line("tea", 7))
	wantLeft(t, "three orders", m, line("tea", 24))
	m = having(t, l, seal("c", 0, 2), seal("d", 0, 4, 2), seal("c", 1, 4, 2), seal("e", 0, 4, 2))
	wantSales(t, "all", m, line("ale", 7), line("jam", 3), line("tea", 31))
	wantLeft(t, "all", m)
}

// TestOrdersOfNothing: they sell nothing, and others behind them are told.
func TestOrdersOfNothing(t *testing.T) {
	l := events(event(0, 1), in("d", event(0, 2, 1)))
	m := having(t, l, seal("x", 0), seal("c", 0), seal("c", 1, 1))
	wantSales(t, "an order behind those of nothing", m, line("tea", 1))
	wantLeft(t, "an order behind those of nothing", m, line("tea", 1))
	wantSales(t, "orders without events", having(t, nil, seal("c", 0, 1), seal("c", 1, 2)))
	wantLeft(t, "orders without events", having(t, nil, seal("c", 0, 1), seal("c", 1, 2)))
	m = model.New()
	m.Entry(api.Entry{Noop: true})
	wantSales(t, "entries without orders", m)
}

// TestClearings: they take away what they had seen, in the order, or in the cart, that both are in.
func TestClearings(t *testing.T) {
	clears := adds("tea", 4, event(1, 1, 1))
	clears.Clears = true
	l := events(adds("tea", 2, event(0, 1)), adds("tea", 3, event(0, 2, 1)), clears)
	wantLeft(t, "in the cart", having(t, l), line("tea", 7))
	m := having(t, l, seal("c", 0, 1))
	wantSales(t, "sold ahead of it", m, line("tea", 2))
	wantLeft(t, "sold ahead of it", m, line("tea", 7))
	m = having(t, l, seal("c", 0, 1, 1))
	wantSales(t, "both sold", m, line("tea", 4))
	wantLeft(t, "both sold", m, line("tea", 3))
}

// TestLeftOfAllEvents: those beyond gaps, and of the greatest numbers, too; and by all entries.
func TestLeftOfAllEvents(t *testing.T) {
	l := events(event(6, api.MaxSeq, 1), event(0, 7), event(0, 3), in("d", event(3, 1)))
	wantLeft(t, "beyond gaps", having(t, l), line("tea", 4))
	m := having(t, l)
	m.Entry(api.Entry{Noop: true})
	m.Entry(api.Entry{Seal: seal("c", 0, 5)})
	m.Entry(api.Entry{Noop: true})
	m.Entry(api.Entry{Seal: seal("c", 1, 9)})
	wantSales(t, "the last entries too", m, line("tea", 2))
	wantLeft(t, "the last entries too", m, line("tea", 2))
}

// TestArticles: by rising bytes.
func TestArticles(t *testing.T) {
	names := []string{"z", "a", "aa", "10", "9", "za", "1", "b"}
	m := model.New()
	var wanted []api.Line
	for i, name := range names {
		if err := m.Event(adds(name, i+1, in(name, event(0, i+1)))); err != api.OK {
			t.Fatal(name, err)
		}
		wanted = append(wanted, line(name, i+1))
	}
	slices.SortFunc(wanted, func(a, b api.Line) int {
		if a.Sku < b.Sku {
			return -1
		}
		return 1
	})
	wantLeft(t, "articles", m, wanted...)
}

func TestNilModel(t *testing.T) {
	wantSales(t, "nil", nil)
	wantLeft(t, "nil", nil)
	wantSales(t, "empty", model.New())
	wantLeft(t, "empty", model.New())
	wantSales(t, "of no call", new(model.Model))
	wantLeft(t, "of no call", new(model.Model))
}

// TestModelStays: looking changes nothing.
func TestModelStays(t *testing.T) {
	m := having(t, events(event(0, 1), event(0, 2, 1)), seal("c", 0, 1))
	for range 2 {
		wantSales(t, "again", m, line("tea", 1))
		wantLeft(t, "again", m, line("tea", 1))
		l := append(audit.Sales(m), audit.Left(m)...)
		for i := range l {
			l[i] = line("x", 9)
		}
	}
	if m.Entries() != 1 || len(m.Events()) != 2 {
		t.Error("a model that was looked at:", m.Entries(), m.Events())
	}
}

func TestTags(t *testing.T) {
	first := tagged(2, event(0, 1))
	second := func(epoch int) api.Event { return tagged(epoch, event(0, 2, 1)) }
	wantTags(t, "nothing", nil, true)
	wantTags(t, "one", events(first), true)
	wantTags(t, "at it", events(first, second(2)), true)
	wantTags(t, "above it", events(first, second(3)), true)
	wantTags(t, "below it", events(first, second(1)), false)
	wantTags(t, "the last one first", events(second(1), first), false)
	wantTags(t, "in two carts", events(first, in("d", second(1))), true)
	wantTags(t, "of another origin", events(first, tagged(0, event(1, 1, 1))), true)
	wantTags(t, "not in its Deps", events(first, tagged(0, event(0, 2))), true)
	wantTags(t, "in its Deps of another origin", events(first, tagged(0, event(0, 2, 0, 1))), true)
	wantTags(t, "the first of three", events(first, second(5), tagged(4, event(0, 3, 2))), false)
	wantTags(t, "behind one that is not in its Deps", events(first, second(5), tagged(4, event(0, 3, 1))), true)
	wantTags(t, "the first one is the greatest", events(tagged(5, event(0, 1)), tagged(0, event(0, 2)), tagged(4, event(0, 3, 2))), false)
	wantTags(t, "another cart between", events(first, in("d", tagged(0, event(0, 2, 1))), tagged(1, event(0, 3, 2))), false)
	wantTags(t, "with a gap", events(first, tagged(1, event(0, 9, 8))), false)
	wantTags(t, "with a gap", events(first, tagged(2, event(0, 9, 8))), true)
}

// TestTagsOfAnyEvents: which had seen themselves or what came behind, are there twice, or may not be.
func TestTagsOfAnyEvents(t *testing.T) {
	wantTags(t, "itself", events(event(0, 1, 1)), true)
	wantTags(t, "what came behind", events(event(0, 1, 2), tagged(1, event(0, 2))), false)
	wantTags(t, "twice", events(event(0, 1), event(0, 1), event(0, 2, 1)), true)
	wantTags(t, "another one of its dot", events(event(0, 1), tagged(3, event(0, 1)), tagged(2, event(0, 2, 1))), false)
	wantTags(t, "another one ahead of it", events(tagged(3, event(0, 1)), event(0, 1), tagged(2, event(0, 2, 1))), false)
	wantTags(t, "dots that may not be", events(tagged(9, event(0, 0)), tagged(9, event(0, -1)), event(0, 1, 0), event(0, 2, 1)), true)
	wantTags(t, "of a dot that may not be", events(tagged(9, event(0, 1)), tagged(8, event(0, 0, 1))), false)
	wantTags(t, "origins that may not be", events(tagged(9, event(-1, 1)), event(-1, 2, 5, 5)), true)
	wantTags(t, "of an eighth origin", events(tagged(9, event(7, 1)), event(7, 2, 0, 0, 0, 0, 0, 0, 0, 1)), false)
	wantTags(t, "Deps below 0", events(tagged(9, event(0, 1)), event(0, 2, -1)), true)
	wantTags(t, "the greatest Deps", events(tagged(9, event(0, 1)), event(0, 2, math.MaxInt)), false)
	wantTags(t, "Epochs below 0", events(tagged(-2, event(0, 1)), tagged(-1, event(0, 2, 1))), true)
	wantTags(t, "Epochs below 0", events(tagged(-1, event(0, 1)), tagged(-2, event(0, 2, 1))), false)
}
