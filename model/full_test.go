package model_test

import (
	"strconv"
	"testing"

	"pannier/api"
	"pannier/model"
)

// crowd is MaxDots events, of 7 origins, each of a cart of its own.
func crowd() []api.Event {
	var l []api.Event
	for i := range api.MaxDots {
		l = append(l, of("c"+strconv.Itoa(i), 0, event(i%7, i/7+1, 1+i%1000)))
	}
	return l
}

// MaxDots events are as many as there may be: others are refused, the same ones known.
func TestFullOfEvents(t *testing.T) {
	events := crowd()
	m := model.New()
	for _, e := range events {
		if err := m.Event(e); err != api.OK {
			t.Fatalf("Event(%v): %d", e, err)
		}
	}
	fork := m.Fork()
	for _, e := range []api.Event{event(0, 0, 1), event(6, 1<<20, 1), event(1, api.MaxSeq, 1)} {
		wantEvent(t, m, e, api.ErrFull)
		wantEvent(t, m, e, api.ErrFull)
		wantEvent(t, m, changed(e, func(e *api.Event) { e.Sku = "" }), api.ErrEvent)
	}
	wantEvent(t, m, events[77], api.ErrTwice)
	wantEvent(t, m, changed(events[77], func(e *api.Event) { e.Qty++ }), api.ErrClash)
	for _, m := range []*model.Model{m, fork} {
		all := m.Events()
		if len(all) != api.MaxDots {
			t.Fatal("Events:", len(all))
		}
		for i, e := range all[1:] {
			if d, next := all[i].Dot, e.Dot; d.Origin > next.Origin || d.Origin == next.Origin && d.Seq >= next.Seq {
				t.Fatal("not rising:", d, next)
			}
		}
	}
	// Entries are taken as ever.
	wantEntry(t, m, entry("t", "c7", 0, 2), order(1, "t", "c7", 0, 2), true, api.OK)
	wantReceipt(t, m, 1, tea(8))
}

// An event for which there is just room is taken.
func TestAlmostFullOfEvents(t *testing.T) {
	events := crowd()
	m := model.New()
	for _, e := range events[1:] {
		m.Event(e)
	}
	wantEvent(t, m, events[1], api.ErrTwice)
	wantEvent(t, m, events[0], api.OK)
	wantEvent(t, m, event(3, api.MaxSeq, 1), api.ErrFull)
}

// MaxDots orders, with Noops between: those that would make one more are counted, and refused. All carts and
// receipts of many carts are told without going over all of the others each time.
func TestFullOfOrders(t *testing.T) {
	events := crowd()
	m := model.New()
	for i, e := range events {
		m.Event(e)
		m.Entry(noop())
		if o, made, err := m.Entry(entry("t"+strconv.Itoa(i), e.Cart, 0, 9400, 9400, 9400, 9400, 9400, 9400, 9400)); o.Id != i+1 || !made || err != api.OK {
			t.Fatalf("the order %d: %v, %v, %d", i+1, o, made, err)
		}
	}
	wantEntry(t, m, entry("u", "c0", 1), api.Order{}, false, api.ErrFull)
	wantEntry(t, m, entry("u", "new", 0), api.Order{}, false, api.ErrFull)
	wantEntry(t, m, entry("u", "new", 1), api.Order{}, false, api.ErrStale)
	wantToken(t, m, "u", 1<<20, api.Order{})
	if m.Entries() != 2*api.MaxDots+3 {
		t.Error("Entries:", m.Entries())
	}
	all := []int{9400, 9400, 9400, 9400, 9400, 9400, 9400}
	for i, e := range events {
		wantReceipt(t, m, i+1, tea(e.Qty))
		o, is := m.Token("t"+strconv.Itoa(i), 2*i+2)
		_, early := m.Token("t"+strconv.Itoa(i), 2*i+1)
		if o.Id != i+1 || !is || early {
			t.Errorf("the token %d: %v, %v, %v", i, o, is, early)
		}
		wantCart(t, m, e.Cart, all, 2*i+1, tea(e.Qty))
		wantCart(t, m, e.Cart, all, 2*i+2, nil)
		if t.Failed() {
			t.FailNow()
		}
	}
	wantNoReceipts(t, m, api.MaxDots+1)
	for _, n := range []int{0, 1, 2, 3, api.MaxDots, 2*api.MaxDots - 1, 2 * api.MaxDots, 2*api.MaxDots + 9} {
		if got := m.Seals(n); len(got) != min(n/2, api.MaxDots) {
			t.Errorf("Seals(%d): %d", n, len(got))
		}
	}
}

// All orders of one cart.
func TestFullOfOneCart(t *testing.T) {
	m := having(t, event(0, 5, 1), event(0, 6, 2))
	for i := range api.MaxDots {
		e := entry("t"+strconv.Itoa(i), "c", i)
		if i >= 1000 {
			e.Seal.Cut = []int{i / 1000}
		}
		if o, made, err := m.Entry(e); o.Id != i+1 || !made || err != api.OK {
			t.Fatalf("the order %d: %v, %v, %d", i+1, o, made, err)
		}
	}
	wantReceipt(t, m, 5001, tea(1))
	wantReceipt(t, m, 6001, tea(2))
	wantReceipt(t, m, 6002, nil)
	wantCart(t, m, "c", []int{6}, 5000, tea(3))
	wantCart(t, m, "c", []int{6}, 5001, tea(2))
	wantCart(t, m, "c", []int{6}, 6001, nil)
	wantEntry(t, m, entry("u", "c", api.MaxDots), api.Order{}, false, api.ErrFull)
}
