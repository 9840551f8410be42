package cut_test

import (
	"math"
	"slices"
	"testing"

	"pannier/api"
	"pannier/cut"
)

// The document's example.
func TestExample(t *testing.T) {
	l := []api.Event{event(0, 1, 0, 2), event(1, 1, 0, 5)}
	seals := []api.Seal{seal("c", 0, 1)}
	wantLines(t, "Order", cut.Order(l, seals, "c", 0), tea(2))
	wantLines(t, "Open", cut.Open(l, seals, "c"), tea(5))
}

func TestOrderAndOpen(t *testing.T) {
	jam := event(0, 4, 1, 7)
	jam.Sku = "jam"
	l := []api.Event{
		event(0, 1, 0, 1), event(1, 1, 0, 10), event(0, 2, 0, 100), of("d", event(0, 3, 0, 1000)), jam,
		event(1, 2, 1, 20), event(2, 1, 0, 3), event(0, 2, 0, 100), of("d", event(3, 1, 0, 4)),
	}
	seals := []api.Seal{seal("c", 0, 2), seal("d", 0, 9), seal("c", 1, 4, 2)}
	for _, k := range []struct {
		name   string
		epoch  int
		wanted []api.Line
	}{
		{"c", 0, tea(101)},
		{"c", 1, []api.Line{{Sku: "jam", Qty: 7}, {Sku: "tea", Qty: 30}}},
		{"d", 0, tea(1000)},
		{"c", 2, nil}, {"c", -1, nil}, {"c", math.MinInt, nil}, {"c", math.MaxInt, nil}, // no such seal
		{"d", 1, nil}, {"e", 0, nil}, {"", 0, nil},
	} {
		wantLines(t, "Order", cut.Order(l, seals, k.name, k.epoch), k.wanted)
		wantLines(t, "Order of nothing", cut.Order(nil, seals, k.name, k.epoch), nil)
		wantLines(t, "Order of no seals", cut.Order(l, nil, k.name, k.epoch), nil)
		wantLines(t, "Open of nothing", cut.Open([]api.Event{}, seals, k.name), nil)
	}
	wantLines(t, "Open", cut.Open(l, seals, "c"), tea(3))
	wantLines(t, "Open", cut.Open(l, seals, "d"), tea(4))
	wantLines(t, "Open", cut.Open(l, seals, "e"), nil)
	wantLines(t, "Open", cut.Open(l, seals[:2], "c"), []api.Line{{Sku: "jam", Qty: 7}, {Sku: "tea", Qty: 33}})
	wantLines(t, "Open", cut.Open(l, seals[1:2], "c"), []api.Line{{Sku: "jam", Qty: 7}, {Sku: "tea", Qty: 134}})
	wantLines(t, "Open of no seals", cut.Open(l, nil, "c"), []api.Line{{Sku: "jam", Qty: 7}, {Sku: "tea", Qty: 134}})
	wantLines(t, "Open of no seals", cut.Open(l, []api.Seal{}, "d"), tea(1004))
}

// What clears does so among the events of its own order, or of the open cart, alone.
func TestClearsInItsOwnOrder(t *testing.T) {
	l := []api.Event{event(0, 1, 0, 1), event(1, 1, 0, 10), clears(event(2, 1, 0, 0, 1, 1)), event(1, 2, 0, 100)}
	wantLines(t, "Open", cut.Open(l, nil, "c"), tea(100))
	late := []api.Seal{seal("c", 0, 1, 1)}
	wantLines(t, "Order, without the removal", cut.Order(l, late, "c", 0), tea(11))
	wantLines(t, "Open, with it", cut.Open(l, late, "c"), tea(100))
	early := []api.Seal{seal("c", 0, 1, 0, 1)}
	wantLines(t, "Order, with it", cut.Order(l, early, "c", 0), nil)
	wantLines(t, "Open, without it", cut.Open(l, early, "c"), tea(110))
	all := []api.Seal{seal("c", 0, 1, 2, 1)}
	wantLines(t, "Order of all", cut.Order(l, all, "c", 0), tea(100))
	wantLines(t, "Open of nothing", cut.Open(l, all, "c"), nil)
}

// Of events of one dot with other Epochs each belongs to its own order; sums of 0 and below are no lines.
func TestOrdersOfOneDot(t *testing.T) {
	l := []api.Event{event(0, 1, 0, 1), event(0, 1, 1, 10), event(0, 1, 0, 100), event(0, 1, 2, 1000)}
	seals := []api.Seal{seal("c", 0, 1), seal("c", 1, 1)}
	wantLines(t, "Order 0", cut.Order(l, seals, "c", 0), tea(1))
	wantLines(t, "Order 1", cut.Order(l, seals, "c", 1), tea(10))
	wantLines(t, "Open", cut.Open(l, seals, "c"), tea(1000))
	l = []api.Event{event(0, 1, 0, 3), event(1, 1, 0, -3), event(2, 1, 0, 1)}
	wantLines(t, "a sum of 0", cut.Order(l, []api.Seal{seal("c", 0, 1, 1)}, "c", 0), nil)
	wantLines(t, "below 0", cut.Open(l, []api.Seal{seal("c", 0, 1)}, "c"), nil)
}

// Of seals that do not follow: by the Epochs that they tell.
func TestOrderOfSealsThatDoNotFollow(t *testing.T) {
	l := []api.Event{event(0, 1, 0, 1), event(0, 2, 0, 10), event(0, 3, -5, 100)}
	seals := []api.Seal{seal("c", 4, 1), seal("c", 4, 2), seal("c", -1, 3)}
	wantLines(t, "Order 4", cut.Order(l, seals, "c", 4), tea(11))
	wantLines(t, "Order -1", cut.Order(l, seals, "c", -1), tea(100))
	wantLines(t, "Order 0", cut.Order(l, seals, "c", 0), nil)
	wantLines(t, "Open", cut.Open(l, seals, "c"), nil)
}

func TestWhole(t *testing.T) {
	seals := []api.Seal{seal("c", 0, 2), seal("d", 0, 9, 9), seal("c", 1, 2, 0, 1), seal("e", 0), seal("c", 3, 1)}
	for _, k := range []struct {
		applied []int
		name    string
		epoch   int
		wanted  bool
	}{
		{[]int{2}, "c", 0, true},
		{[]int{3, 1}, "c", 0, true},
		{[]int{2, 0, 0, 0}, "c", 0, true},
		{[]int{1, 9}, "c", 0, false},
		{nil, "c", 0, false},
		{[]int{}, "c", 0, false},
		{[]int{2}, "c", 1, false},
		{[]int{2, 9}, "c", 1, false},
		{[]int{2, 0, 1}, "c", 1, true},
		{[]int{1, 0, 1}, "c", 1, false},
		{[]int{2, 1, 2, 1, 1, 1, 1, 1, 1}, "c", 1, true},
		{[]int{2, 0, 1}, "d", 0, false},
		{[]int{9, 9}, "d", 0, true},
		{nil, "e", 0, true}, // an empty cut is below all
		{[]int{1}, "e", 0, true},
		{[]int{9, 9, 9, 9, 9, 9, 9}, "c", 2, false}, // no such seal
		{[]int{9, 9}, "c", 3, true},
		{[]int{9, 9, 9}, "c", 4, false},
		{[]int{9, 9, 9}, "c", -1, false},
		{[]int{9, 9, 9}, "d", 1, false},
		{[]int{9, 9, 9}, "f", 0, false},
		{nil, "", 0, false},
		{[]int{math.MinInt, 5}, "c", 0, false},
		{[]int{math.MaxInt}, "c", math.MinInt, false},
	} {
		if is := cut.Whole(k.applied, seals, k.name, k.epoch); is != k.wanted {
			t.Errorf("Whole(%v, %q, %d): %v", k.applied, k.name, k.epoch, is)
		}
		if cut.Whole(k.applied, nil, k.name, k.epoch) || cut.Whole(k.applied, []api.Seal{}, k.name, k.epoch) {
			t.Errorf("Whole(%v, %q, %d) of no seals", k.applied, k.name, k.epoch)
		}
	}
}

func TestSplit(t *testing.T) {
	l := []api.Event{event(1, 1, 0, 1), event(0, 2, 0, 1, 1), of("d", event(0, 1, 0, 1)), event(0, 1, 2, 1), event(0, 1, 0, 1), of("e", event(0, 1, 0, 1)), clears(event(0, 3, 0, 0, 9, 9)), of("d", event(4, 4, 0, 1)), event(0, 1, 0, 1), event(0, 0, -1, 1)}
	for _, k := range []struct {
		seals  []api.Seal
		places []int // of those that belong to one
	}{
		{nil, nil},
		{[]api.Seal{}, nil},
		{[]api.Seal{seal("c", 0)}, nil},
		{[]api.Seal{seal("c", 0, 1)}, []int{4, 8}},
		{[]api.Seal{seal("d", 0, 1), seal("c", 0, 2)}, []int{1, 2, 4, 8}},
		{[]api.Seal{seal("c", 0, 0, 1), seal("c", 1, 3), seal("d", 0, 4, 4, 4, 4, 4)}, []int{0, 1, 2, 4, 6, 7, 8}},
		{[]api.Seal{seal("f", 0, 9, 9, 9, 9, 9)}, nil},
		{[]api.Seal{seal("c", 2, 1), seal("", 0, 9, 9)}, []int{3, 4, 8}},
	} {
		var ordered, open []api.Event
		for i, e := range l {
			if slices.Contains(k.places, i) {
				ordered = append(ordered, e)
			} else {
				open = append(open, e)
			}
		}
		a, b := cut.Split(l, k.seals)
		wantEvents(t, "ordered", a, ordered)
		wantEvents(t, "open", b, open)
		a, b = cut.Split(nil, k.seals)
		wantEvents(t, "ordered of nothing", a, nil)
		wantEvents(t, "open of nothing", b, nil)
	}
}

func cloned(l []api.Event) []api.Event {
	l = slices.Clone(l)
	for i := range l {
		l[i].Deps = slices.Clone(l[i].Deps)
	}
	return l
}

// spoil overwrites all of l, with its room, and all vectors with theirs.
func spoil(l []api.Event) {
	l = l[:cap(l)]
	for i, e := range l {
		deps := e.Deps[:cap(e.Deps)]
		for j := range deps {
			deps[j] = 99
		}
		l[i] = api.Event{Cart: "spoilt"}
	}
}

// What is handed in stays as it is; what is answered is new memory, and the two lists share nothing.
func TestMemory(t *testing.T) {
	room := []api.Event{event(0, 1, 0, 1, 5, 6), event(1, 1, 0, 1, 7), event(0, 2, 0, 1, 8, 9), event(1, 2, 0, 1, 3), event(6, 6, 6, 6)}
	for i := range room {
		room[i].Deps = append(slices.Clone(room[i].Deps), 77)[:len(room[i].Deps)]
	}
	l, was := room[:4], cloned(room)
	cuts := []int{2, 1, 77, 77}
	seals := []api.Seal{{Token: "t", Cart: "c", Cut: cuts[:1]}, {Token: "u", Cart: "d"}, {Token: "spare"}}[:2]
	wasSeals := []api.Seal{seal("c", 0, 2), {Token: "u", Cart: "d"}, {Token: "spare"}}
	ordered, open := cut.Split(l, seals)
	wantOrdered, wantOpen := cloned(ordered), cloned(open)
	lines, openLines := cut.Order(l, seals, "c", 0), cut.Open(l, seals, "c")
	clear(lines[:cap(lines)])
	wantLines(t, "Open", openLines, tea(2))
	clear(openLines[:cap(openLines)])
	cut.Check(seals)
	cut.Epoch(seals, "c")
	cut.Belongs(l[0], seals)
	applied := []int{1, 2, 88}
	cut.Whole(applied[:2], seals, "c", 0)
	if !slices.Equal(applied, []int{1, 2, 88}) || !slices.Equal(cuts, []int{2, 1, 77, 77}) {
		t.Error("a vector was changed:", applied, cuts)
	}
	for i, s := range seals[:3] {
		if s.Token != wasSeals[i].Token || s.Cart != wasSeals[i].Cart || !slices.Equal(s.Cut, wasSeals[i].Cut) {
			t.Error("a seal was changed:", s)
		}
	}
	wantEvents(t, "the argument, and what lies behind it", room, was)
	for _, e := range l {
		if e.Deps[:len(e.Deps)+1][len(e.Deps)] != 77 {
			t.Error("what lies behind a vector was changed:", e)
		}
	}
	spoil(ordered)
	wantEvents(t, "open, when ordered is gone", open, wantOpen)
	wantEvents(t, "the argument", room, was)
	ordered, _ = cut.Split(l, seals)
	spoil(open)
	wantEvents(t, "ordered, when open is gone", ordered, wantOrdered)
	wantEvents(t, "the argument", room, was)
	spoil(room)
	wantEvents(t, "ordered, when the argument is gone", ordered, wantOrdered)
	for i := range ordered {
		spoil(ordered[i : i+1 : i+1])
		wantEvents(t, "behind one that was spoilt", ordered[i+1:], wantOrdered[i+1:])
	}
}
