package cut_test

import (
	"math"
	"reflect"
	"slices"
	"strings"
	"testing"

	"pannier/api"
	"pannier/cut"
)

// event is an addition of tea to the cart c.
func event(origin, seq, epoch, qty int, deps ...int) api.Event {
	return api.Event{Dot: api.Dot{Origin: origin, Seq: seq}, Deps: deps, Cart: "c", Epoch: epoch, Sku: "tea", Qty: qty}
}

// clears is e, but that it clears what it had seen.
func clears(e api.Event) api.Event {
	e.Clears = true
	return e
}

// of is e, but of another cart.
func of(name string, e api.Event) api.Event {
	e.Cart = name
	return e
}

func seal(name string, epoch int, v ...int) api.Seal {
	return api.Seal{Token: "t", Cart: name, Epoch: epoch, Cut: v}
}

func tea(qty int) []api.Line { return []api.Line{{Sku: "tea", Qty: qty}} }

func sameEvent(a, b api.Event) bool {
	if !slices.Equal(a.Deps, b.Deps) {
		return false
	}
	a.Deps, b.Deps = nil, nil
	return reflect.DeepEqual(a, b)
}

func wantEvents(t *testing.T, what string, got, wanted []api.Event) {
	t.Helper()
	if !slices.EqualFunc(got, wanted, sameEvent) {
		t.Errorf("%s: %v, not %v", what, got, wanted)
	}
}

func wantLines(t *testing.T, what string, got, wanted []api.Line) {
	t.Helper()
	if !slices.Equal(got, wanted) {
		t.Errorf("%s: %v, not %v", what, got, wanted)
	}
}

func wantCheck(t *testing.T, seals []api.Seal, at int, wanted api.Errno) {
	t.Helper()
	if n, err := cut.Check(seals); n != at || err != wanted {
		t.Errorf("Check(%v): %d, %d, not %d, %d", seals, n, err, at, wanted)
	}
}

func TestCheck(t *testing.T) {
	right := []api.Seal{seal("c", 0), seal("d", 0, 1), seal("c", 1, 0, 2), seal("c", 2), seal("e", 0, 7), seal("d", 1)}
	for n := range len(right) + 1 {
		wantCheck(t, right[:n], 0, api.OK)
	}
	wantCheck(t, []api.Seal{}, 0, api.OK)
	for _, k := range []struct {
		at    int
		seals []api.Seal
	}{
		{0, []api.Seal{seal("c", 1)}},
		{0, []api.Seal{seal("c", 1), seal("c", 0)}},
		{1, []api.Seal{seal("c", 0), seal("c", 0)}},
		{1, []api.Seal{seal("c", 0), seal("c", 2), seal("c", 1)}},
		{1, []api.Seal{seal("c", 0), seal("d", 1)}},
		{2, []api.Seal{seal("c", 0), seal("d", 0), seal("d", 0), seal("c", 7)}},
		{2, []api.Seal{seal("c", 0), seal("c", 1), seal("c", 1)}},
		{3, []api.Seal{seal("c", 0), seal("c", 1), seal("c", 2), seal("c", 4)}},
		{1, []api.Seal{seal("c", 0), seal("c", -1)}},
		{0, []api.Seal{seal("c", -1), seal("c", 0)}},
		{0, []api.Seal{seal("c", math.MinInt)}},
		{0, []api.Seal{seal("c", math.MaxInt)}},
	} {
		wantCheck(t, k.seals, k.at, api.ErrSeal)
	}
}

// Seals that may not be, at each place.
func TestCheckOfWhatMayNotBe(t *testing.T) {
	long := strings.Repeat("x", 33)
	for _, s := range []api.Seal{
		{},
		{Cart: "c"},
		{Token: "t"},
		{Token: "T", Cart: "c"},
		{Token: "t", Cart: "C"},
		{Token: long, Cart: "c"},
		{Token: "t", Cart: long},
		{Token: "t", Cart: "c", Cut: []int{0}},
		{Token: "t", Cart: "c", Cut: []int{1, 0}},
		{Token: "t", Cart: "c", Cut: []int{-1}},
		{Token: "t", Cart: "c", Cut: []int{-1, 1}},
		{Token: "t", Cart: "c", Cut: []int{1 << 31}},
		{Token: "t", Cart: "c", Cut: []int{1, 1, 1, 1, 1, 1, 1, 1}},
	} {
		wantCheck(t, []api.Seal{s}, 0, api.ErrSeal)
		wantCheck(t, []api.Seal{seal("d", 0), seal("d", 1), s, {}, seal("d", 7)}, 2, api.ErrSeal)
		wantCheck(t, []api.Seal{seal("d", 1), s}, 0, api.ErrSeal)
	}
	wantCheck(t, []api.Seal{{Token: long[1:], Cart: long[1:], Cut: []int{1<<31 - 1, 0, 0, 0, 0, 0, 1}}}, 0, api.OK)
	wantCheck(t, []api.Seal{{Token: "t", Cart: "c", Cut: []int{}}}, 0, api.OK)
}

func TestEpoch(t *testing.T) {
	seals := []api.Seal{seal("c", 0), seal("d", 0), seal("c", 1), seal("c", 2), seal("cc", 0), {}}
	for name, wanted := range map[string]int{"c": 3, "d": 1, "cc": 1, "e": 0, "": 1, "C": 0} {
		if n := cut.Epoch(seals, name); n != wanted {
			t.Errorf("Epoch of %q: %d, not %d", name, n, wanted)
		}
	}
	// How many there are, whatever their Epochs say.
	if n := cut.Epoch([]api.Seal{seal("c", 7), seal("c", 7), seal("c", -1)}, "c"); n != 3 {
		t.Error("Epoch:", n)
	}
	if cut.Epoch(nil, "c") != 0 || cut.Epoch([]api.Seal{}, "") != 0 {
		t.Error("Epoch of nothing")
	}
}

func TestBelongs(t *testing.T) {
	seals := []api.Seal{seal("c", 0, 1), seal("d", 0, 9, 9), seal("c", 1, 2, 1), seal("c", 2, 1, 3), seal("c", 3, 5), seal("d", 1, 9, 9, 9)}
	const none = -1
	for _, k := range []struct {
		e      api.Event
		wanted int
	}{
		{event(0, 1, 0, 1), 0},
		{event(1, 1, 0, 1), 1}, // outside the first cut
		{event(0, 1, 1, 1), 1}, // from its own Epoch on
		{event(0, 1, 2, 1), 2},
		{event(0, 1, 3, 1), 3},
		{event(0, 1, 4, 1), none},
		{event(0, 2, 0, 1), 1},
		{event(0, 2, 2, 1), 3}, // the seal of its own Epoch has not got it
		{event(0, 3, 0, 1), 3},
		{event(0, 6, 0, 1), none},
		{event(1, 3, 0, 1), 2},
		{event(1, 3, 2, 1), 2},
		{event(1, 3, 3, 1), none}, // an earlier one had it
		{event(1, 4, 0, 1), none},
		{event(2, 1, 0, 1), none},
		{of("d", event(1, 4, 0, 1)), 0},
		{of("d", event(2, 1, 0, 1)), 1},
		{of("d", event(0, 1, 1, 1)), 1},
		{of("d", event(0, 1, 2, 1)), none},
		{of("e", event(0, 1, 0, 1)), none},
		{of("", event(0, 1, 0, 1)), none},
		{event(0, 1, -1, 1), 0},
		{event(0, 1, math.MinInt, 1), 0},
		{event(0, 1, math.MaxInt, 1), none},
		{event(0, 0, 0, 1), none},
		{event(0, -1, 0, 1), none},
		{event(-1, 1, 0, 1), none},
		{event(7, 1, 0, 1), none},
		{event(math.MaxInt, math.MaxInt, 0, 1), none},
		{api.Event{}, none},
	} {
		wanted, wantedIs := max(k.wanted, 0), k.wanted != none
		if n, is := cut.Belongs(k.e, seals); n != wanted || is != wantedIs {
			t.Errorf("Belongs(%v): %d, %v, not %d, %v", k.e, n, is, wanted, wantedIs)
		}
		for _, empty := range [][]api.Seal{nil, {}} {
			if n, is := cut.Belongs(k.e, empty); n != 0 || is {
				t.Errorf("Belongs(%v) of no seals: %d, %v", k.e, n, is)
			}
		}
	}
}

// Of seals that do not follow too: the first one in the list, by the Epochs that they tell.
func TestBelongsToTheFirst(t *testing.T) {
	seals := []api.Seal{seal("c", 5, 1), seal("c", 2, 2), seal("c", -3, 3), seal("c", 2, 4), {Cart: "c", Epoch: 9, Cut: []int{0, 0, 0, 0, 0, 0, 0, 0, 0, 2}}}
	for _, k := range []struct {
		e      api.Event
		wanted int
		is     bool
	}{
		{event(0, 1, 0, 1), 5, true},
		{event(0, 2, 0, 1), 2, true},
		{event(0, 1, 6, 1), 0, false},
		{event(0, 3, -3, 1), -3, true},
		{event(0, 3, -2, 1), 2, true},
		{event(0, 4, 0, 1), 2, true},
		{event(9, 2, 0, 1), 9, true},
	} {
		if n, is := cut.Belongs(k.e, seals); n != k.wanted || is != k.is {
			t.Errorf("Belongs(%v): %d, %v, not %d, %v", k.e, n, is, k.wanted, k.is)
		}
	}
}
