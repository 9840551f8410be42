package model_test

import (
	"math"
	"reflect"
	"slices"
	"strings"
	"sync"
	"testing"

	"pannier/api"
	"pannier/model"
)

// event is an addition of tea to the cart c.
func event(origin, seq, qty int, deps ...int) api.Event {
	return api.Event{Dot: api.Dot{Origin: origin, Seq: seq}, Deps: deps, Cart: "c", Sku: "tea", Qty: qty}
}

// changed is e, but for what change does.
func changed(e api.Event, change func(e *api.Event)) api.Event {
	change(&e)
	return e
}

// of is e, but of another cart, in that epoch.
func of(cart string, epoch int, e api.Event) api.Event {
	e.Cart, e.Epoch = cart, epoch
	return e
}

func noop() api.Entry {
	return api.Entry{Noop: true}
}

func entry(token, cart string, epoch int, v ...int) api.Entry {
	return api.Entry{Seal: api.Seal{Token: token, Cart: cart, Epoch: epoch, Cut: v}}
}

func order(id int, token, cart string, epoch int, v ...int) api.Order {
	return api.Order{Id: id, Token: token, Cart: cart, Epoch: epoch, Cut: v}
}

func tea(qty int) []api.Line {
	return []api.Line{{Sku: "tea", Qty: qty}}
}

func sameEvent(a, b api.Event) bool {
	same := slices.Equal(a.Deps, b.Deps)
	a.Deps, b.Deps = nil, nil
	return same && reflect.DeepEqual(a, b)
}

func sameOrder(a, b api.Order) bool {
	same := slices.Equal(a.Cut, b.Cut)
	a.Cut, b.Cut = nil, nil
	return same && reflect.DeepEqual(a, b)
}

func sameSeal(a, b api.Seal) bool {
	same := slices.Equal(a.Cut, b.Cut)
	a.Cut, b.Cut = nil, nil
	return same && reflect.DeepEqual(a, b)
}

func wantEvent(t *testing.T, m *model.Model, e api.Event, wanted api.Errno) {
	t.Helper()
	if got := m.Event(e); got != wanted {
		t.Errorf("Event(%v): %d, not %d", e, got, wanted)
	}
}

func wantEvents(t *testing.T, what string, m *model.Model, wanted ...api.Event) {
	t.Helper()
	if got := m.Events(); !slices.EqualFunc(got, wanted, sameEvent) {
		t.Errorf("%s: Events: %v, not %v", what, got, wanted)
	}
}

func wantEntry(t *testing.T, m *model.Model, e api.Entry, wanted api.Order, made bool, err api.Errno) {
	t.Helper()
	if o, is, code := m.Entry(e); !sameOrder(o, wanted) || is != made || code != err {
		t.Errorf("Entry(%v): %v, %v, %d, not %v, %v, %d", e, o, is, code, wanted, made, err)
	}
}

func wantSeals(t *testing.T, m *model.Model, n int, wanted ...api.Entry) {
	t.Helper()
	got := m.Seals(n)
	if !slices.EqualFunc(got, wanted, func(s api.Seal, e api.Entry) bool { return sameSeal(s, e.Seal) }) {
		t.Errorf("Seals(%d): %v, not %v", n, got, wanted)
	}
}

func wantCart(t *testing.T, m *model.Model, cart string, applied []int, n int, wanted []api.Line) {
	t.Helper()
	if got := m.Cart(cart, applied, n); !slices.Equal(got, wanted) {
		t.Errorf("Cart(%q, %v, %d): %v, not %v", cart, applied, n, got, wanted)
	}
}

func wantReceipt(t *testing.T, m *model.Model, id int, wanted []api.Line) {
	t.Helper()
	if got, is := m.Receipt(id); !slices.Equal(got, wanted) || !is {
		t.Errorf("Receipt(%d): %v, %v, not %v", id, got, is, wanted)
	}
}

func wantNoReceipts(t *testing.T, m *model.Model, ids ...int) {
	t.Helper()
	for _, id := range ids {
		if got, is := m.Receipt(id); len(got) != 0 || is {
			t.Errorf("Receipt(%d): %v, %v", id, got, is)
		}
	}
}

func wantToken(t *testing.T, m *model.Model, token string, n int, wanted api.Order) {
	t.Helper()
	if got, is := m.Token(token, n); !sameOrder(got, wanted) || is != (wanted.Id > 0) {
		t.Errorf("Token(%q, %d): %v, %v, not %v", token, n, got, is, wanted)
	}
}

// having is a model with those events.
func having(t *testing.T, events ...api.Event) *model.Model {
	t.Helper()
	m := model.New()
	for _, e := range events {
		wantEvent(t, m, e, api.OK)
	}
	return m
}

func wrongVectors() [][]int {
	return [][]int{{-1}, {math.MinInt, -5}, {0}, {0, 0, 0}, {1, 0}, {api.MaxSeq + 1}, {math.MaxInt, math.MaxInt}, {1, 1, 1, 1, 1, 1, 1, 1}, {0, 0, 0, 0, 0, 0, 0, 9, 9}}
}

func TestNew(t *testing.T) {
	m := model.New()
	if m == nil || m == model.New() {
		t.Fatal("New answers no model of its own")
	}
	wantEvents(t, "a new one", m)
	for _, n := range []int{-1, 0, 1, 9} {
		wantSeals(t, m, n)
		wantCart(t, m, "c", []int{9}, n, nil)
		wantToken(t, m, "t", n, api.Order{})
	}
	wantNoReceipts(t, m, -1, 0, 1)
	if m.Entries() != 0 {
		t.Error("Entries:", m.Entries())
	}
}

func TestExample(t *testing.T) {
	m := having(t, event(0, 1, 2))
	wantCart(t, m, "c", []int{1}, 0, tea(2))
	wantEntry(t, m, entry("t", "c", 0, 1), order(1, "t", "c", 0, 1), true, api.OK)
	wantReceipt(t, m, 1, tea(2))
	wantCart(t, m, "c", []int{1}, 1, nil)
	wantCart(t, m, "c", []int{1}, 0, tea(2))
}

// Of a dot there is one event: the same one is there twice, another one, in whatever part, clashes.
func TestEventTwice(t *testing.T) {
	e := of("c", 1, event(1, 2, 3, 4, 1))
	m := having(t, e, event(0, 2, 1))
	for range 2 {
		wantEvent(t, m, e, api.ErrTwice)
		for _, other := range []api.Event{
			changed(e, func(e *api.Event) { e.Deps = nil }),
			changed(e, func(e *api.Event) { e.Deps = []int{4} }),
			changed(e, func(e *api.Event) { e.Deps = []int{4, 2} }),
			changed(e, func(e *api.Event) { e.Deps = []int{4, 1, 1} }),
			changed(e, func(e *api.Event) { e.Cart = "d" }),
			changed(e, func(e *api.Event) { e.Epoch = 0 }),
			changed(e, func(e *api.Event) { e.Sku = "jam" }),
			changed(e, func(e *api.Event) { e.Qty = 0 }),
			changed(e, func(e *api.Event) { e.Clears = true }),
		} {
			wantEvent(t, m, other, api.ErrClash)
			wantEvents(t, "another one", m, event(0, 2, 1), e)
		}
	}
	wantCart(t, m, "c", []int{9, 9}, 0, tea(4))
	wantCart(t, m, "d", []int{9, 9}, 0, nil)
	// Without Deps: nil and the empty list are the same.
	wantEvent(t, m, event(0, 2, 1, []int{}...), api.ErrTwice)
	none := event(0, 2, 1)
	none.Deps = []int{}
	wantEvent(t, m, none, api.ErrTwice)
	wantEvent(t, m, changed(e, func(e *api.Event) { e.Dot.Origin = 2 }), api.OK)
	wantEvent(t, m, changed(e, func(e *api.Event) { e.Dot.Seq = 1 }), api.OK)
}

func wrongEvents(e api.Event) map[string]api.Event {
	with := func(change func(e *api.Event)) api.Event { return changed(e, change) }
	return map[string]api.Event{
		"nothing":              {},
		"an origin below 0":    with(func(e *api.Event) { e.Dot.Origin = -1 }),
		"an origin of 7":       with(func(e *api.Event) { e.Dot.Origin = 7 }),
		"a number below 0":     with(func(e *api.Event) { e.Dot.Seq = -1 }),
		"a number above all":   with(func(e *api.Event) { e.Dot.Seq = api.MaxSeq + 1 }),
		"Deps that end with 0": with(func(e *api.Event) { e.Deps = []int{1, 0} }),
		"Deps below 0":         with(func(e *api.Event) { e.Deps = []int{-1, 1} }),
		"Deps above all":       with(func(e *api.Event) { e.Deps = []int{api.MaxSeq + 1} }),
		"Deps of 8":            with(func(e *api.Event) { e.Deps = []int{1, 1, 1, 1, 1, 1, 1, 1} }),
		"no cart":              with(func(e *api.Event) { e.Cart = "" }),
		"a cart of 33 bytes":   with(func(e *api.Event) { e.Cart = strings.Repeat("c", 33) }),
		"a wrong cart":         with(func(e *api.Event) { e.Cart = "C" }),
		"an epoch below 0":     with(func(e *api.Event) { e.Epoch = -1 }),
		"an epoch above all":   with(func(e *api.Event) { e.Epoch = api.MaxSeq + 1 }),
		"no article":           with(func(e *api.Event) { e.Sku = "" }),
		"an article too long":  with(func(e *api.Event) { e.Sku = strings.Repeat("s", 33) }),
		"a wrong article":      with(func(e *api.Event) { e.Sku = "tea pot" }),
		"fewer than 0":         with(func(e *api.Event) { e.Qty = -1 }),
		"more than MaxQty":     with(func(e *api.Event) { e.Qty = api.MaxQty + 1 }),
		"very many":            with(func(e *api.Event) { e.Qty = math.MaxInt }),
		"a number of MinInt":   with(func(e *api.Event) { e.Dot.Seq = math.MinInt }),
		"an origin of MaxInt":  with(func(e *api.Event) { e.Dot.Origin = math.MaxInt }),
		"a cart with a nought": with(func(e *api.Event) { e.Cart = "c\x00" }),
	}
}

func TestWrongEvents(t *testing.T) {
	e := event(0, 1, 1)
	m := having(t, e)
	for what, wrong := range wrongEvents(e) { // of a dot that is there
		wantEvent(t, m, wrong, api.ErrEvent)
		wantEvents(t, what, m, e)
	}
	for what, wrong := range wrongEvents(event(3, 4, 1)) {
		wantEvent(t, m, wrong, api.ErrEvent)
		wantEvents(t, what, m, e)
	}
	wantCart(t, m, "c", []int{9, 9, 9, 9, 9, 9, 9}, 0, tea(1))
}

// What codec takes is taken: also the number 0, which no vector has, Deps of any kind, and an epoch that is far ahead.
func TestEventsAtTheEdges(t *testing.T) {
	long := strings.Repeat("z", 32)
	zero := event(0, 0, 7)
	last := api.Event{Dot: api.Dot{Origin: 6, Seq: api.MaxSeq}, Deps: []int{api.MaxSeq, 0, 0, 0, 0, 0, api.MaxSeq}, Cart: long, Epoch: api.MaxSeq, Sku: long, Qty: api.MaxQty, Clears: true}
	gap := event(0, 9, 0, 0, 5)
	m := having(t, last, gap, zero)
	wantEvents(t, "the edges", m, zero, gap, last)
	wantEvent(t, m, zero, api.ErrTwice)
	wantEvent(t, m, event(0, 0, 6), api.ErrClash)
	wantCart(t, m, "c", []int{api.MaxSeq}, 0, nil)
	wantCart(t, m, long, []int{0, 0, 0, 0, 0, 0, api.MaxSeq}, 0, []api.Line{{Sku: long, Qty: api.MaxQty}})
	wantCart(t, m, long, []int{0, 0, 0, 0, 0, 0, api.MaxSeq - 1}, 0, nil)
	wantEntry(t, m, entry("t", "c", 0, 9), order(1, "t", "c", 0, 9), true, api.OK)
	wantReceipt(t, m, 1, nil)
}

// Events are told by rising origins, of one by rising numbers, however they came.
func TestEventsInOrder(t *testing.T) {
	sorted := []api.Event{event(0, 1, 1), event(0, 2, 2), event(0, 10, 3), event(1, 1, 4), event(2, 3, 5), event(6, 2, 6), event(6, 9, 7)}
	for _, places := range [][]int{{0, 1, 2, 3, 4, 5, 6}, {6, 5, 4, 3, 2, 1, 0}, {3, 6, 2, 0, 5, 4, 1}} {
		m := model.New()
		for _, at := range places {
			wantEvent(t, m, sorted[at], api.OK)
		}
		wantEvents(t, "in some order", m, sorted...)
	}
}

// Entry tells what the machine does; all but wrong ones are counted.
func TestEntry(t *testing.T) {
	m := model.New()
	first := order(1, "t", "c", 0, 1)
	wantEntry(t, m, noop(), api.Order{}, false, api.OK)
	wantEntry(t, m, entry("t", "c", 1), api.Order{}, false, api.ErrStale)
	wantEntry(t, m, entry("t", "c", 0, 1), first, true, api.OK)
	wantEntry(t, m, entry("t", "d", 7), first, false, api.OK)
	wantEntry(t, m, entry("u", "c", 0), api.Order{}, false, api.ErrStale)
	for _, e := range []api.Entry{{}, entry("", "c", 1), entry("u", "C", 1), entry("u", "c", -1), entry("u", "c", 1, 0), {Noop: true, Seal: api.Seal{Token: "t"}}} {
		wantEntry(t, m, e, api.Order{}, false, api.ErrArg)
	}
	if m.Entries() != 5 {
		t.Error("Entries:", m.Entries())
	}
	wantEntry(t, m, entry("u", "c", 1), order(2, "u", "c", 1), true, api.OK)
	if m.Entries() != 6 {
		t.Error("Entries:", m.Entries())
	}
}

// chosen is a model with some entries: those of the places 1, 4 and 5 make orders.
func chosen(t *testing.T, events ...api.Event) (*model.Model, []api.Entry) {
	t.Helper()
	m := having(t, events...)
	entries := []api.Entry{noop(), entry("t", "c", 0, 2), entry("t", "c", 1, 9), entry("u", "c", 0, 9), entry("u", "d", 0, 1, 1), entry("v", "c", 1, 3, 1), noop()}
	for _, e := range entries {
		m.Entry(e)
	}
	return m, entries
}

func TestSeals(t *testing.T) {
	m, all := chosen(t)
	made := []api.Entry{all[1], all[4], all[5]}
	for n, count := range map[int]int{math.MinInt: 0, -1: 0, 0: 0, 1: 0, 2: 1, 3: 1, 4: 1, 5: 2, 6: 3, 7: 3, 8: 3, math.MaxInt - 1: 3, math.MaxInt: 3} {
		wantSeals(t, m, n, made[:count]...)
	}
	m.Entry(entry("w", "e", 0))
	wantSeals(t, m, 7, made...)
	wantSeals(t, m, 8, append(made, entry("w", "e", 0))...)
}

// The order of a token is told from the entry on that made it.
func TestToken(t *testing.T) {
	m, _ := chosen(t)
	orders := []api.Order{order(1, "t", "c", 0, 2), order(2, "u", "d", 0, 1, 1), order(3, "v", "c", 1, 3, 1)}
	for at, by := range []int{2, 5, 6} {
		for _, n := range []int{math.MinInt, -1, 0, 1, 2, 3, 4, 5, 6, 7, 8, math.MaxInt} {
			wanted := orders[at]
			if n < by {
				wanted = api.Order{}
			}
			wantToken(t, m, orders[at].Token, n, wanted)
		}
	}
	for _, token := range []string{"", "w", "c", "T", strings.Repeat("t", 33)} {
		wantToken(t, m, token, 9, api.Order{})
	}
}

// A cart is what is applied of it, and in none of the orders of the first n entries.
func TestCart(t *testing.T) {
	events := []api.Event{
		event(0, 1, 1), of("d", 0, event(0, 2, 2)), event(0, 3, 4), of("c", 1, event(0, 4, 8)),
		of("d", 0, event(1, 1, 16)), event(1, 2, 32),
	}
	m, _ := chosen(t, events...)
	all := []int{4, 2}
	for n, wanted := range []int{45, 45, 44, 44, 44, 44, 40, 40} {
		wantCart(t, m, "c", all, n, tea(wanted))
	}
	for n, wanted := range []int{18, 18, 18, 18, 18, 2, 2, 2} {
		wantCart(t, m, "d", all, n, tea(wanted))
	}
	// Beyond the ends, and of vectors that have none, some, more than all.
	wantCart(t, m, "c", all, math.MinInt, tea(45))
	wantCart(t, m, "c", all, math.MaxInt, tea(40))
	wantCart(t, m, "c", nil, 0, nil)
	wantCart(t, m, "c", []int{}, 7, nil)
	wantCart(t, m, "c", []int{1}, 0, tea(1))
	wantCart(t, m, "c", []int{1}, 2, nil)
	wantCart(t, m, "c", []int{3}, 0, tea(5))
	wantCart(t, m, "c", []int{3, 1}, 7, nil)
	wantCart(t, m, "c", []int{0, 2}, 7, tea(32))
	wantCart(t, m, "c", []int{99, 99, 99}, 0, tea(45))
	for _, cart := range []string{"", "e", "C", "t", "tea", strings.Repeat("c", 33)} {
		wantCart(t, m, cart, all, 0, nil)
	}
}

// Vectors that may not be have what their numbers say.
func TestCartOfWrongVectors(t *testing.T) {
	m, _ := chosen(t, event(0, 1, 1), event(0, 5, 2), event(1, 2, 4), event(6, 1, 8))
	for i, wanted := range []int{0, 0, 0, 0, 1, 3, 7, 9, 0} {
		var lines []api.Line
		if wanted > 0 {
			lines = tea(wanted)
		}
		wantCart(t, m, "c", wrongVectors()[i], 0, lines)
	}
	wantCart(t, m, "c", []int{math.MaxInt, math.MaxInt, -1}, 7, tea(6))
}

// Clearings count among what is applied and open alone.
func TestCartAndClearings(t *testing.T) {
	clears := changed(event(1, 1, 5, 1), func(e *api.Event) { e.Clears = true })
	m := having(t, event(0, 1, 1), event(0, 2, 2), clears)
	wantCart(t, m, "c", []int{2}, 0, tea(3))
	wantCart(t, m, "c", []int{2, 1}, 0, tea(7))
	wantCart(t, m, "c", []int{0, 1}, 0, tea(5))
	m.Entry(entry("t", "c", 0, 0, 1))
	wantReceipt(t, m, 1, tea(5))
	wantCart(t, m, "c", []int{2, 1}, 1, tea(3))
	wantCart(t, m, "c", []int{2, 1}, 0, tea(7))
}

func TestReceipt(t *testing.T) {
	events := []api.Event{
		event(0, 1, 1), of("d", 0, event(0, 2, 2)), event(0, 3, 4), of("c", 2, event(1, 1, 8)), of("d", 0, event(1, 2, 16)),
		changed(event(1, 3, 7), func(e *api.Event) { e.Sku = "jam" }),
	}
	m, _ := chosen(t, events...)
	wantReceipt(t, m, 1, tea(1))
	wantReceipt(t, m, 2, nil) // (1,1) is of another cart, and so is (0,1)
	wantReceipt(t, m, 3, tea(4))
	wantNoReceipts(t, m, math.MinInt, -1, 0, 4, 5, 7, math.MaxInt)
	m.Entry(entry("w", "d", 1, 9, 9))
	m.Entry(entry("x", "c", 2, 0, 9))
	wantReceipt(t, m, 4, tea(18))
	wantReceipt(t, m, 5, []api.Line{{Sku: "jam", Qty: 7}, {Sku: "tea", Qty: 8}})
	wantNoReceipts(t, m, 6)
	// What comes of a cut that was not all there yet is in its order.
	wantEvent(t, m, of("d", 0, event(0, 4, 32)), api.OK)
	wantEvent(t, m, of("d", 2, event(0, 5, 64)), api.OK) // but not, if it knew of that order
	wantReceipt(t, m, 4, tea(50))
	wantCart(t, m, "d", []int{9, 9}, 9, tea(64))
}

func TestFork(t *testing.T) {
	m, _ := chosen(t, event(0, 1, 1), event(0, 2, 2))
	other := m.Fork()
	third := other.Fork()
	wantEvent(t, m, event(0, 4, 4), api.OK)
	wantEvent(t, other, event(0, 4, 8), api.OK)
	wantEvent(t, m, event(0, 4, 8), api.ErrClash)
	wantEvent(t, third, event(0, 4, 4), api.OK)
	wantEvent(t, third, event(3, 1, 16), api.OK)
	wantEntry(t, m, entry("w", "c", 2, 4), order(4, "w", "c", 2, 4), true, api.OK)
	wantEntry(t, other, entry("x", "c", 2, 3), order(4, "x", "c", 2, 3), true, api.OK)
	wantEntry(t, third, noop(), api.Order{}, false, api.OK)
	wantEntry(t, third, entry("w", "d", 1), order(4, "w", "d", 1), true, api.OK)

	wantEvents(t, "the first", m, event(0, 1, 1), event(0, 2, 2), event(0, 4, 4))
	wantEvents(t, "its fork", other, event(0, 1, 1), event(0, 2, 2), event(0, 4, 8))
	wantEvents(t, "the fork's fork", third, event(0, 1, 1), event(0, 2, 2), event(0, 4, 4), event(3, 1, 16))
	wantReceipt(t, m, 4, tea(4))
	wantReceipt(t, other, 4, nil)
	wantReceipt(t, third, 4, nil)
	wantCart(t, m, "c", []int{4, 0, 0, 1}, 9, nil)
	wantCart(t, other, "c", []int{4, 0, 0, 1}, 9, tea(8))
	wantCart(t, third, "c", []int{4, 0, 0, 1}, 9, tea(20))
	if m.Entries() != 8 || other.Entries() != 8 || third.Entries() != 9 {
		t.Error("Entries:", m.Entries(), other.Entries(), third.Entries())
	}
	wantToken(t, m, "x", 9, api.Order{})
	wantToken(t, other, "w", 9, api.Order{})
	wantToken(t, third, "w", 8, api.Order{})
	wantToken(t, third, "w", 9, order(4, "w", "d", 1))
	for n, made := range map[*model.Model]api.Entry{m: entry("w", "c", 2, 4), other: entry("x", "c", 2, 3), third: entry("w", "d", 1)} {
		wantSeals(t, n, 9, entry("t", "c", 0, 2), entry("u", "d", 0, 1, 1), entry("v", "c", 1, 3, 1), made)
	}
}

// Forks go on apart from one another, however many events and orders of a cart there were.
func TestForksOfOneCart(t *testing.T) {
	for many := range 10 {
		m := model.New()
		for i := range many {
			wantEvent(t, m, event(0, i+1, 1), api.OK)
			wantEntry(t, m, entry(strings.Repeat("t", i+1), "c", i), order(i+1, strings.Repeat("t", i+1), "c", i), true, api.OK)
		}
		other := m.Fork()
		other.Entry(entry("x", "d", 0))
		other.Entry(entry("y", "c", many, 0, 1))
		wantEvent(t, m, event(1, 1, 100), api.OK)
		wantEvent(t, other, event(2, 1, 200), api.OK)
		m.Entry(entry("y", "c", many, 0, 0, 1))
		wantEvent(t, m, event(2, 1, 400), api.OK)
		wantEvent(t, other, event(1, 1, 800), api.OK)
		all := []int{many, 1, 1}
		wantCart(t, m, "c", all, 0, tea(many+500))
		wantCart(t, m, "c", all, many+1, tea(many+100))
		wantReceipt(t, m, many+1, tea(400))
		wantCart(t, other, "c", all, many+1, tea(many+1000))
		wantCart(t, other, "c", all, many+2, tea(many+200))
		wantReceipt(t, other, many+2, tea(800))
	}
}

// Forks may be used at once.
func TestForksAtOnce(t *testing.T) {
	m, _ := chosen(t, event(0, 1, 1))
	var wait sync.WaitGroup
	for range 4 {
		fork := m.Fork()
		wait.Go(func() {
			for i := range 2000 {
				fork.Event(event(1, i+1, 1))
				fork.Entry(entry("x", "c", i))
				fork.Cart("e", []int{1}, i)
			}
			wantCart(t, fork, "c", []int{1, 2000}, 0, tea(2001))
		})
	}
	wait.Wait()
}

// A model that no call made is as a nil one.
func TestNilModel(t *testing.T) {
	for _, m := range []*model.Model{nil, {}} {
		for _, e := range []api.Event{event(0, 1, 1), {}} {
			wantEvent(t, m, e, api.ErrClosed)
		}
		for _, e := range []api.Entry{noop(), entry("t", "c", 0), {}} {
			wantEntry(t, m, e, api.Order{}, false, api.ErrClosed)
		}
		for _, n := range []int{-1, 0, 1} {
			wantToken(t, m, "t", n, api.Order{})
			if m.Seals(n) != nil || m.Cart("c", []int{1}, n) != nil {
				t.Error("Seals, Cart:", m.Seals(n), m.Cart("c", []int{1}, n))
			}
		}
		wantNoReceipts(t, m, -1, 0, 1)
		if m.Entries() != 0 || m.Events() != nil || m.Fork() != nil {
			t.Error("Entries, Events, Fork:", m.Entries(), m.Events(), m.Fork())
		}
	}
}

func spoil(v []int) {
	for i := range v {
		v[i] = 99
	}
	_ = append(v, 99)
}

// Nothing that is handed in is kept or changed, and what is answered is new each time.
func TestNothingIsShared(t *testing.T) {
	deps, v, applied := []int{0, 1, 7}, []int{1, 2, 7}, []int{1, 1, 7}
	m := having(t, event(0, 1, 1, deps[:2]...), event(1, 1, 2))
	made, _, _ := m.Entry(entry("t", "c", 0, v[:2]...))
	m.Cart("c", applied[:2], 1)
	if !slices.Equal(deps, []int{0, 1, 7}) || !slices.Equal(v, []int{1, 2, 7}) || !slices.Equal(applied, []int{1, 1, 7}) {
		t.Error("what was handed in was changed:", deps, v, applied)
	}
	fork := m.Fork()
	known, _, _ := m.Entry(entry("t", "c", 0))
	token, _ := m.Token("t", 1)
	for _, cut := range [][]int{v[:2], made.Cut, known.Cut, token.Cut, m.Seals(1)[0].Cut, deps[:2], m.Events()[0].Deps, applied[:2]} {
		spoil(cut)
	}
	lines, _ := m.Receipt(1)
	open, seals, events := m.Cart("c", []int{1, 1}, 0), m.Seals(1), m.Events()
	lines[0], open[0], seals[0], events[0] = api.Line{Sku: "x"}, api.Line{Sku: "x"}, api.Seal{Cart: "x"}, api.Event{Cart: "x"}
	_, _, _, _ = append(lines, api.Line{}), append(open, api.Line{}), append(seals, api.Seal{}), append(events, api.Event{})
	for what, m := range map[string]*model.Model{"the model": m, "its fork": fork} {
		wantEvents(t, what, m, event(0, 1, 1, 0, 1), event(1, 1, 2))
		wantSeals(t, m, 9, entry("t", "c", 0, 1, 2))
		wantToken(t, m, "t", 9, order(1, "t", "c", 0, 1, 2))
		wantReceipt(t, m, 1, tea(3))
		wantCart(t, m, "c", []int{1, 1}, 0, tea(3))
		wantEvent(t, m, event(0, 1, 1, 0, 1), api.ErrTwice)
	}
	// The room behind a list of few seals holds none of the later ones.
	m.Entry(entry("u", "c", 1))
	few := m.Seals(1)
	for _, s := range few[:cap(few)][len(few):] {
		if !reflect.DeepEqual(s, api.Seal{}) {
			t.Error("behind the end:", s)
		}
	}
}
