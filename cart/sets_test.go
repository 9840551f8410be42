package cart_test

import (
	"math"
	"slices"
	"testing"

	"pannier/api"
	"pannier/cart"
)

func TestMerge(t *testing.T) {
	a1, a2, b1, c1 := adds(0, 1, 1), sets(0, 2, 2, 1), adds(1, 1, 3, 1), adds(2, 1, 4)
	other := of("d", "jam", adds(0, 1, 9, 0, 4))
	for _, k := range []struct{ a, b, wanted []api.Event }{
		{nil, nil, nil},
		{[]api.Event{}, nil, nil},
		{[]api.Event{a1}, nil, []api.Event{a1}},
		{nil, []api.Event{a1}, []api.Event{a1}},
		{[]api.Event{c1, a2, b1, a1}, nil, []api.Event{a1, a2, b1, c1}},
		{nil, []api.Event{c1, a2, b1, a1}, []api.Event{a1, a2, b1, c1}},
		{[]api.Event{b1, a2}, []api.Event{c1, a1}, []api.Event{a1, a2, b1, c1}},
		{[]api.Event{b1, a1}, []api.Event{b1, a2, a1}, []api.Event{a1, a2, b1}},
		{[]api.Event{a1, b1, a1, a1}, []api.Event{a1, c1, c1}, []api.Event{a1, b1, c1}},
		{[]api.Event{a1}, []api.Event{other}, []api.Event{a1}},
		{[]api.Event{other}, []api.Event{a1}, []api.Event{other}},
		{[]api.Event{a1, other}, []api.Event{b1}, []api.Event{a1, b1}},
		{[]api.Event{other, a1}, []api.Event{a1}, []api.Event{other}},
		{[]api.Event{b1}, []api.Event{other, a1}, []api.Event{other, b1}},
		{[]api.Event{b1}, []api.Event{a1, other}, []api.Event{a1, b1}},
	} {
		wantEvents(t, "Merge", cart.Merge(k.a, k.b), k.wanted)
	}
}

// All dots have their place, also those that may not be; what goes by another event is merged too.
func TestMergeOfAnyDots(t *testing.T) {
	var sorted []api.Event
	for _, origin := range []int{math.MinInt, -1, 0, 6, 7, 10, math.MaxInt} {
		for _, seq := range []int{math.MinInt, -2, 0, 1, 2, 9, 10, math.MaxInt} {
			sorted = append(sorted, sets(origin, seq, 1, 99, 99, 99))
		}
	}
	var a, b []api.Event
	for i := range sorted {
		e := sorted[(i*29+11)%len(sorted)] // 56 of them: each once
		if i%3 != 0 {
			a = append(a, e)
		}
		if i%3 != 1 {
			b = append(b, e)
		}
	}
	wantEvents(t, "Merge", cart.Merge(a, b), sorted)
	wantEvents(t, "Merge", cart.Merge(b, a), sorted)
}

func TestCut(t *testing.T) {
	l := []api.Event{adds(1, 2, 1), adds(0, 1, 1), sets(0, 3, 1, 9, 9), adds(1, 1, 1), adds(0, 2, 1), adds(0, 1, 7), adds(3, 1, 1), adds(0, 0, 1), adds(-1, 1, 1), adds(1, -1, 1), adds(8, 1, 1)}
	for _, k := range []struct{ v, places []int }{
		{nil, nil},
		{[]int{}, nil},
		{[]int{0, 0}, nil},
		{[]int{1}, []int{1, 5}},
		{[]int{2}, []int{1, 4, 5}},
		{[]int{2, 1}, []int{1, 3, 4, 5}},
		{[]int{0, 2}, []int{0, 3}},
		{[]int{9, 9, 9, 9}, []int{0, 1, 2, 3, 4, 5, 6}},
		{[]int{-1, math.MinInt, -1, 1}, []int{6}},
		{[]int{0, 0, 0, 0, 0, 0, 0, 0, 1}, []int{10}},
		{[]int{math.MaxInt}, []int{1, 2, 4, 5}},
	} {
		var wanted []api.Event
		for _, at := range k.places {
			wanted = append(wanted, l[at])
		}
		wantEvents(t, "Cut", cart.Cut(l, k.v), wanted)
		wantEvents(t, "Cut of nothing", cart.Cut(nil, k.v), nil)
	}
}

// roomy is l with more behind its end, and vectors with more behind their ends.
func roomy(l []api.Event) []api.Event {
	out := make([]api.Event, 0, len(l)+2)
	for _, e := range append(slices.Clone(l), adds(5, 5, 5, 5), adds(6, 6, 6, 6)) {
		e.Deps = append(slices.Clone(e.Deps), 77, 78)[:len(e.Deps)]
		out = append(out, e)
	}
	return out[:len(l)]
}

// spoil overwrites all of l, with its room, and all vectors with theirs.
func spoil(l []api.Event) {
	l = l[:cap(l)]
	for i, e := range l {
		deps := e.Deps[:cap(e.Deps)]
		for j := range deps {
			deps[j] = 99
		}
		l[i] = api.Event{Cart: "spoilt"}
	}
}

// What is handed in stays as it is; what is answered is new memory.
func TestMemory(t *testing.T) {
	sorted := []api.Event{adds(0, 1, 1, 0, 2, 3), sets(0, 2, 2, 0, 1), adds(1, 1, 4, 5, 6), adds(2, 1, 2, 1), adds(2, 2, 3)}
	calls := map[string]func(l []api.Event) []api.Event{
		"Stand":          cart.Stand,
		"Cut":            func(l []api.Event) []api.Event { return cart.Cut(l, []int{9, 9, 9}) },
		"Merge":          func(l []api.Event) []api.Event { return cart.Merge(l[:2:2], l[2:]) },
		"Merge of a":     func(l []api.Event) []api.Event { return cart.Merge(l, nil) },
		"Merge of b":     func(l []api.Event) []api.Event { return cart.Merge(nil, l) },
		"Merge of all":   func(l []api.Event) []api.Event { return cart.Merge(l, l) },
		"Merge and room": func(l []api.Event) []api.Event { return cart.Merge(l[:1], l) },
	}
	for what, call := range calls {
		for _, base := range [][]api.Event{sorted, {sorted[4], sorted[2], sorted[1], sorted[0], sorted[3]}} {
			l := roomy(base)
			got := call(l)
			again := call(l)
			wanted := slices.Clone(again)
			for i := range wanted {
				wanted[i].Deps = slices.Clone(wanted[i].Deps)
			}
			wantEvents(t, what, got, wanted)
			if len(got) == 0 {
				t.Fatal(what, "answers nothing")
			}
			for i := range got { // each vector alone
				if room := got[i].Deps[:cap(got[i].Deps)]; len(room) > 0 {
					room[0] = 55
					wantEvents(t, what+", behind one that was spoilt", got[i+1:], wanted[i+1:])
				}
			}
			spoil(got)
			wantEvents(t, what+" again", again, wanted)
			wantEvents(t, what+": the argument", l, base)
			wantEvents(t, what+": behind its end", l[len(l):len(l)+2], []api.Event{adds(5, 5, 5, 5), adds(6, 6, 6, 6)})
			for _, e := range l {
				if behind := e.Deps[len(e.Deps) : len(e.Deps)+2]; !slices.Equal(behind, []int{77, 78}) {
					t.Errorf("%s: behind a vector's end: %v", what, behind)
				}
			}
			spoil(l)
			wantEvents(t, what+", when the argument is gone", again, wanted)
		}
	}
}

func TestMemoryOfLines(t *testing.T) {
	base := []api.Event{sets(1, 1, 4, 5, 6), of("c", "jam", adds(0, 9, 1, 1)), adds(0, 1, 1), of("b", "tea", adds(2, 1, 1))}
	l := roomy(base)
	lines, names := cart.Lines(l, "c"), cart.Carts(l)
	clear(lines[:cap(lines)])
	clear(names[:cap(names)])
	wantEvents(t, "Lines, Carts: the argument", l, base)
	wantLines(t, "Lines again", cart.Lines(l, "c"), []api.Line{{Sku: "jam", Qty: 1}, {Sku: "tea", Qty: 4}})
	if got := cart.Carts(l); !slices.Equal(got, []string{"b", "c"}) {
		t.Error("Carts again:", got)
	}
	v := []int{1, 1, 7, 7}
	cart.Cut(l, v[:2])
	if !slices.Equal(v, []int{1, 1, 7, 7}) {
		t.Error("Cut changed its vector:", v)
	}
}
