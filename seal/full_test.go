package seal_test

import (
	"slices"
	"strconv"
	"testing"

	"pannier/api"
	"pannier/cut"
	"pannier/seal"
)

// full is a machine with MaxDots orders, and the entries that made them: of the cart c each second one, of
// other carts one each.
func full(t *testing.T) (*seal.Machine, []api.Entry) {
	t.Helper()
	m := seal.New()
	var entries []api.Entry
	for i := range api.MaxDots {
		cart, epoch := "c", i/2
		if i%2 == 1 {
			cart, epoch = "c"+strconv.Itoa(i), 0
		}
		entries = append(entries, entry("t"+strconv.Itoa(i), cart, epoch, i+1))
		o, made, err := m.Do(entries[i])
		if o.Id != i+1 || !made || err != api.OK {
			t.Fatalf("the order %d: %v, %v, %d", i+1, o, made, err)
		}
	}
	return m, entries
}

// wantFull looks whether just the entries' orders are there.
func wantFull(t *testing.T, m *seal.Machine, done int, entries []api.Entry) {
	t.Helper()
	orders := m.Orders()
	if len(orders) != api.MaxDots || m.Done() != done || m.Epoch("c") != api.MaxDots/2 || m.Epoch("c1") != 1 || m.Epoch("new") != 0 {
		t.Fatal("full:", len(orders), m.Done(), m.Epoch("c"), m.Epoch("c1"))
	}
	for i, o := range orders {
		s := entries[i].Seal
		byToken, is := m.Token(s.Token)
		if !sameOrder(o, order(i+1, s.Token, s.Cart, s.Epoch, s.Cut...)) || !is || !sameOrder(byToken, o) {
			t.Fatalf("the order %d: %v, %v", i+1, o, byToken)
		}
	}
	seals := m.Seals()
	if !slices.EqualFunc(seals, entries, func(s api.Seal, e api.Entry) bool { return sameSeal(s, e.Seal) }) {
		t.Error("Seals are others")
	}
	if at, err := cut.Check(seals); at != 0 || err != api.OK {
		t.Error("Check:", at, err)
	}
	if _, is := m.Get(api.MaxDots + 1); is {
		t.Error("one more")
	}
}

// What would make an order when there are MaxDots is refused, but counted; all else is as ever.
func TestFull(t *testing.T) {
	m, entries := full(t)
	done := api.MaxDots
	wantFull(t, m, done, entries)
	fork := m.Fork()
	for _, e := range []api.Entry{entry("u", "new", 0), entry("u", "c", api.MaxDots/2, 1), entry("v", "c1", 1), entry("u", "new", 0)} {
		wantDo(t, m, e, api.Order{}, false, api.ErrFull)
		done++
		wantFull(t, m, done, entries)
	}
	for _, e := range []api.Entry{entry("u", "new", 1), entry("u", "c", 0), entry("u", "c", api.MaxDots/2+1), entry("u", "c1", 0)} {
		wantStale(t, m, e)
		done++
	}
	wantDo(t, m, noop(), api.Order{}, false, api.OK)
	wantDo(t, m, entry("t6", "new", 0), order(7, "t6", "c", 3, 7), false, api.OK)
	wantDo(t, m, api.Entry{}, api.Order{}, false, api.ErrArg)
	wantFull(t, m, done+2, entries)
	wantFull(t, fork, api.MaxDots, entries)
}

// P19.4: a full machine, too, makes nothing of the entries that made its orders.
func TestFullDoneAgain(t *testing.T) {
	m, entries := full(t)
	for i, e := range entries {
		if o, made, err := m.Do(e); o.Id != i+1 || made || err != api.OK {
			t.Fatalf("Do(%v) again: %v, %v, %d", e, o, made, err)
		}
	}
	wantFull(t, m, 2*api.MaxDots, entries)
}

// The last one there is room for is made.
func TestAlmostFull(t *testing.T) {
	m := seal.New()
	for i := range api.MaxDots - 1 {
		m.Do(entry("t"+strconv.Itoa(i), "c", i))
	}
	wantStale(t, m, entry("z", "c", 0))
	makes(t, m, entry("z", "c", api.MaxDots-1), api.MaxDots)
	wantDo(t, m, entry("y", "c", api.MaxDots), api.Order{}, false, api.ErrFull)
	wantDo(t, m, entry("z", "c", api.MaxDots), order(api.MaxDots, "z", "c", api.MaxDots-1), false, api.OK)
}
