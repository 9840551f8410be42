package seal_test

import (
	"math"
	"reflect"
	"slices"
	"strings"
	"testing"

	"pannier/api"
	"pannier/cut"
	"pannier/seal"
)

func noop() api.Entry {
	return api.Entry{Noop: true}
}

func entry(token, cart string, epoch int, v ...int) api.Entry {
	return api.Entry{Seal: api.Seal{Token: token, Cart: cart, Epoch: epoch, Cut: v}}
}

func order(id int, token, cart string, epoch int, v ...int) api.Order {
	return api.Order{Id: id, Token: token, Cart: cart, Epoch: epoch, Cut: v}
}

func sameOrder(a, b api.Order) bool {
	same := slices.Equal(a.Cut, b.Cut)
	a.Cut, b.Cut = nil, nil
	return same && reflect.DeepEqual(a, b)
}

func sameSeal(a, b api.Seal) bool {
	same := slices.Equal(a.Cut, b.Cut)
	a.Cut, b.Cut = nil, nil
	return same && reflect.DeepEqual(a, b)
}

// wantDo does e, and looks at what is answered.
func wantDo(t *testing.T, m *seal.Machine, e api.Entry, wanted api.Order, made bool, err api.Errno) {
	t.Helper()
	if o, is, code := m.Do(e); !sameOrder(o, wanted) || is != made || code != err {
		t.Errorf("Do(%v): %v, %v, %d, not %v, %v, %d", e, o, is, code, wanted, made, err)
	}
}

// makes does e, which must make that order.
func makes(t *testing.T, m *seal.Machine, e api.Entry, id int) {
	t.Helper()
	wantDo(t, m, e, order(id, e.Seal.Token, e.Seal.Cart, e.Seal.Epoch, e.Seal.Cut...), true, api.OK)
}

func wantStale(t *testing.T, m *seal.Machine, e api.Entry) {
	t.Helper()
	wantDo(t, m, e, api.Order{}, false, api.ErrStale)
}

// wantMachine looks at all that m tells, by the orders that it should have.
func wantMachine(t *testing.T, what string, m *seal.Machine, done int, orders ...api.Order) {
	t.Helper()
	if got := m.Done(); got != done {
		t.Errorf("%s: Done: %d, not %d", what, got, done)
	}
	if got := m.Orders(); !slices.EqualFunc(got, orders, sameOrder) {
		t.Errorf("%s: Orders: %v, not %v", what, got, orders)
	}
	epochs := map[string]int{"never": 0, "c": 0, "d": 0, "": 0}
	var seals []api.Seal
	for _, o := range orders {
		if got, is := m.Token(o.Token); !sameOrder(got, o) || !is {
			t.Errorf("%s: Token(%q): %v, %v, not %v", what, o.Token, got, is, o)
		}
		if got, is := m.Get(o.Id); !sameOrder(got, o) || !is {
			t.Errorf("%s: Get(%d): %v, %v, not %v", what, o.Id, got, is, o)
		}
		epochs[o.Cart]++
		seals = append(seals, api.Seal{Token: o.Token, Cart: o.Cart, Epoch: o.Epoch, Cut: o.Cut})
	}
	for cart, epoch := range epochs {
		if got := m.Epoch(cart); got != epoch {
			t.Errorf("%s: Epoch(%q): %d, not %d", what, cart, got, epoch)
		}
	}
	if got := m.Seals(); !slices.EqualFunc(got, seals, sameSeal) {
		t.Errorf("%s: Seals: %v, not %v", what, got, seals)
	}
	for _, id := range []int{math.MinInt, -1, 0, len(orders) + 1, len(orders) + 2, math.MaxInt} {
		if got, is := m.Get(id); !reflect.DeepEqual(got, api.Order{}) || is {
			t.Errorf("%s: Get(%d): %v, %v", what, id, got, is)
		}
	}
	for _, token := range []string{"", "never", "T", strings.Repeat("t", 33)} {
		if got, is := m.Token(token); !reflect.DeepEqual(got, api.Order{}) || is {
			t.Errorf("%s: Token(%q): %v, %v", what, token, got, is)
		}
	}
}

func TestNew(t *testing.T) {
	m := seal.New()
	if m == nil || m == seal.New() {
		t.Fatal("New answers no machine of its own")
	}
	wantMachine(t, "a new one", m, 0)
}

func TestExample(t *testing.T) {
	m := seal.New()
	makes(t, m, entry("t", "c", 0), 1)
	wantStale(t, m, entry("u", "c", 0))
	wantDo(t, m, entry("t", "c", 1), order(1, "t", "c", 0), false, api.OK)
	makes(t, m, entry("u", "c", 1), 2)
	wantMachine(t, "the example", m, 4, order(1, "t", "c", 0), order(2, "u", "c", 1))
}

// A Noop does nothing, but it is counted.
func TestNoop(t *testing.T) {
	m := seal.New()
	wantDo(t, m, noop(), api.Order{}, false, api.OK)
	wantMachine(t, "a Noop", m, 1)
	makes(t, m, entry("t", "c", 0, 1), 1)
	wantDo(t, m, noop(), api.Order{}, false, api.OK)
	wantDo(t, m, api.Entry{Noop: true, Seal: api.Seal{Cut: []int{}}}, api.Order{}, false, api.OK)
	wantMachine(t, "Noops", m, 4, order(1, "t", "c", 0, 1))
}

// A token that has an order tells that one, whatever else its seal says.
func TestTokenThatHasAnOrder(t *testing.T) {
	m := seal.New()
	first, second := order(1, "t", "c", 0, 1, 2), order(2, "u", "d", 0)
	makes(t, m, entry("t", "c", 0, 1, 2), 1)
	makes(t, m, entry("u", "d", 0), 2)
	done := 2
	for _, e := range []api.Entry{
		entry("t", "c", 0, 1, 2), entry("t", "c", 0), entry("t", "c", 0, 9, 9, 9), entry("t", "c", 1, 1, 2), entry("t", "c", 7),
		entry("t", "d", 0), entry("t", "d", 1, 1, 2), entry("t", "e", 0), entry("t", "e", api.MaxSeq),
	} {
		wantDo(t, m, e, first, false, api.OK)
		e.Seal.Token = "u"
		wantDo(t, m, e, second, false, api.OK)
		done += 2
	}
	wantMachine(t, "tokens that have orders", m, done, first, second)
}

func TestStale(t *testing.T) {
	m := seal.New()
	for _, epoch := range []int{1, 2, api.MaxSeq} {
		wantStale(t, m, entry("t", "c", epoch, 1))
	}
	wantMachine(t, "ahead of its cart", m, 3)
	makes(t, m, entry("t", "c", 0, 1), 1)
	makes(t, m, entry("u", "c", 1), 2)
	for _, epoch := range []int{0, 1, 3, api.MaxSeq} {
		wantStale(t, m, entry("v", "c", epoch, 1))
	}
	wantStale(t, m, entry("v", "d", 2))
	wantMachine(t, "stale ones", m, 10, order(1, "t", "c", 0, 1), order(2, "u", "c", 1))
	makes(t, m, entry("v", "c", 2, 1), 3) // a token that was stale may come again
	wantMachine(t, "behind them", m, 11, order(1, "t", "c", 0, 1), order(2, "u", "c", 1), order(3, "v", "c", 2, 1))
}

// Each cart has epochs of its own, Ids are all carts'.
func TestEpochsOfCarts(t *testing.T) {
	m := seal.New()
	var orders []api.Order
	for i, cart := range []string{"c", "d", "c", "e", "d", "d", "c", "token", "e"} {
		token := "token" + strings.Repeat("-", i)
		makes(t, m, entry(token, cart, m.Epoch(cart), i+1), i+1)
		epoch := []int{0, 0, 1, 0, 1, 2, 2, 0, 1}[i]
		orders = append(orders, order(i+1, token, cart, epoch, i+1))
		wantMachine(t, cart, m, i+1, orders...)
	}
	// A token is no cart, and a cart is no token.
	if _, is := m.Token("c"); is || m.Epoch("token-") != 0 {
		t.Error("a cart's name is a token, or a token is a cart's name")
	}
}

// The longest names, the greatest cut.
func TestEdges(t *testing.T) {
	long, other := strings.Repeat("z", 32), strings.Repeat("-", 32)
	full := []int{api.MaxSeq, 0, 0, 0, 0, 0, api.MaxSeq}
	m := seal.New()
	makes(t, m, entry(long, other, 0, full...), 1)
	makes(t, m, entry(other, long, 0, full[:1]...), 2)
	wantMachine(t, "the longest names", m, 2, order(1, long, other, 0, full...), order(2, other, long, 0, api.MaxSeq))
}

func wrongEntries() map[string]api.Entry {
	change := func(do func(s *api.Seal)) api.Entry {
		e := entry("u", "c", 1, 1)
		do(&e.Seal)
		return e
	}
	return map[string]api.Entry{
		"nothing":                {},
		"a Noop with a token":    {Noop: true, Seal: api.Seal{Token: "t"}},
		"a Noop with a cart":     {Noop: true, Seal: api.Seal{Cart: "c"}},
		"a Noop with an epoch":   {Noop: true, Seal: api.Seal{Epoch: 1}},
		"a Noop with a cut":      {Noop: true, Seal: api.Seal{Cut: []int{1}}},
		"a whole seal as a Noop": {Noop: true, Seal: entry("u", "c", 1).Seal},
		"no token":               change(func(s *api.Seal) { s.Token = "" }),
		"a token of 33 bytes":    change(func(s *api.Seal) { s.Token = strings.Repeat("t", 33) }),
		"a wrong token":          change(func(s *api.Seal) { s.Token = "U" }),
		"no cart":                change(func(s *api.Seal) { s.Cart = "" }),
		"a cart of 33 bytes":     change(func(s *api.Seal) { s.Cart = strings.Repeat("c", 33) }),
		"a wrong cart":           change(func(s *api.Seal) { s.Cart = "c c" }),
		"an epoch below 0":       change(func(s *api.Seal) { s.Epoch = -1 }),
		"an epoch above all":     change(func(s *api.Seal) { s.Epoch = api.MaxSeq + 1 }),
		"a cut that ends with 0": change(func(s *api.Seal) { s.Cut = []int{1, 0} }),
		"a cut of a nought":      change(func(s *api.Seal) { s.Cut = []int{0} }),
		"a cut below 0":          change(func(s *api.Seal) { s.Cut = []int{-1} }),
		"a cut above all":        change(func(s *api.Seal) { s.Cut = []int{api.MaxSeq + 1} }),
		"a cut of 8":             change(func(s *api.Seal) { s.Cut = []int{1, 1, 1, 1, 1, 1, 1, 1} }),
		"a known token, wrongly": {Seal: api.Seal{Token: "t", Cart: "C"}},
		"a stale one, wrongly":   {Seal: api.Seal{Token: "u", Cart: "c", Epoch: 9, Cut: []int{0}}},
	}
}

// What may not be an entry is not done, and not counted.
func TestWrongEntries(t *testing.T) {
	m := seal.New()
	makes(t, m, entry("t", "c", 0, 1), 1)
	for what, e := range wrongEntries() {
		if o, made, err := m.Do(e); !reflect.DeepEqual(o, api.Order{}) || made || err != api.ErrArg {
			t.Errorf("%s: %v, %v, %d", what, o, made, err)
		}
		wantMachine(t, what, m, 1, order(1, "t", "c", 0, 1))
	}
	makes(t, m, entry("u", "c", 1, 1), 2)
}

func TestFork(t *testing.T) {
	m := seal.New()
	makes(t, m, entry("t", "c", 0, 1), 1)
	wantDo(t, m, noop(), api.Order{}, false, api.OK)
	other := m.Fork()
	wantMachine(t, "a fork", other, 2, order(1, "t", "c", 0, 1))
	makes(t, other, entry("u", "d", 0), 2)
	makes(t, m, entry("u", "c", 1, 2), 2)
	third := other.Fork()
	makes(t, third, entry("v", "c", 1), 3)
	makes(t, other, entry("v", "d", 1), 3)
	wantMachine(t, "the first", m, 3, order(1, "t", "c", 0, 1), order(2, "u", "c", 1, 2))
	wantMachine(t, "its fork", other, 4, order(1, "t", "c", 0, 1), order(2, "u", "d", 0), order(3, "v", "d", 1))
	wantMachine(t, "the fork's fork", third, 4, order(1, "t", "c", 0, 1), order(2, "u", "d", 0), order(3, "v", "c", 1))
}

// Forks go on apart from one another, however many orders there were.
func TestForksOfManyOrders(t *testing.T) {
	for many := range 10 {
		m := seal.New()
		for i := range many {
			makes(t, m, entry(strings.Repeat("t", i+1), "c", i), i+1)
		}
		ahead, other := m.Orders(), m.Fork()
		makes(t, m, entry("u", "c", many, 1), many+1)
		makes(t, other, entry("v", "d", 0, 2), many+1)
		wantMachine(t, "the first", m, many+1, append(slices.Clone(ahead), order(many+1, "u", "c", many, 1))...)
		wantMachine(t, "its fork", other, many+1, append(slices.Clone(ahead), order(many+1, "v", "d", 0, 2))...)
	}
}

// A machine that no call made is as a nil one.
func TestNilMachine(t *testing.T) {
	for _, m := range []*seal.Machine{nil, {}} {
		for _, e := range []api.Entry{noop(), entry("t", "c", 0), entry("t", "c", 1), {}} {
			wantDo(t, m, e, api.Order{}, false, api.ErrClosed)
		}
		wantMachine(t, "nil", m, 0)
		if m.Orders() != nil || m.Seals() != nil || m.Fork() != nil {
			t.Error("Orders, Seals, Fork:", m.Orders(), m.Seals(), m.Fork())
		}
	}
}

func spoil(v []int) {
	for i := range v {
		v[i] = 99
	}
	_ = append(v, 99)
}

// Nothing that is handed in is kept or changed, and what is answered is new each time.
func TestNothingIsShared(t *testing.T) {
	room := []int{1, 2, 3}
	e := entry("t", "c", 0, room[:2]...)
	m := seal.New()
	made, _, _ := m.Do(e)
	known, _, _ := m.Do(e)
	if !slices.Equal(room, []int{1, 2, 3}) {
		t.Error("what was handed in was changed:", room)
	}
	fork := m.Fork()
	token, _ := m.Token("t")
	byId, _ := m.Get(1)
	cuts := [][]int{room[:2], made.Cut, known.Cut, token.Cut, byId.Cut, m.Orders()[0].Cut, m.Seals()[0].Cut}
	for i, v := range cuts {
		spoil(v)
		for _, other := range cuts[i+1:] {
			if !slices.Equal(other, []int{1, 2}) {
				t.Errorf("two answers are one list: %d of %v", i, cuts)
			}
		}
		wantMachine(t, "what was told was changed", m, 2, order(1, "t", "c", 0, 1, 2))
		wantMachine(t, "and of the fork", fork, 2, order(1, "t", "c", 0, 1, 2))
	}
	orders, seals := m.Orders(), m.Seals()
	orders[0], seals[0] = order(7, "x", "y", 8), api.Seal{Token: "x"}
	_, _ = append(orders, api.Order{Id: 5}), append(seals, api.Seal{Token: "z"})
	makes(t, m, entry("u", "c", 1), 2)
	wantMachine(t, "lists were changed", m, 3, order(1, "t", "c", 0, 1, 2), order(2, "u", "c", 1))
}

// P19.4: an entry that is done again, at once or behind all, makes no order. (None of these is stale for being
// ahead of its cart's epoch: of such a one see TestAheadOfItsEpoch.)
func TestDoneAgain(t *testing.T) {
	entries := []api.Entry{
		entry("t", "c", 0, 1), noop(), entry("u", "c", 0, 2), entry("t", "c", 1), entry("u", "c", 1, 3), entry("v", "d", 0),
		entry("w", "c", 1), entry("v", "c", 2), entry("w", "d", 0), noop(), entry("x", "d", 1, 0, 0, 4),
	}
	m := seal.New()
	for _, e := range entries {
		o, _, err := m.Do(e)
		if err != api.OK {
			o = api.Order{}
		}
		wantDo(t, m, e, o, false, err)
	}
	orders := m.Orders()
	if len(orders) != 4 {
		t.Fatal("the first time:", orders)
	}
	for range 2 {
		for _, e := range entries {
			if o, made, _ := m.Do(e); made {
				t.Errorf("Do(%v) again: %v", e, o)
			}
		}
	}
	wantMachine(t, "done again", m, 4*len(entries), orders...)
}

// An entry that was stale since its epoch had not come yet is stale no more when it has.
func TestAheadOfItsEpoch(t *testing.T) {
	m := seal.New()
	early := entry("u", "c", 1, 2)
	wantStale(t, m, early)
	wantStale(t, m, early)
	makes(t, m, entry("t", "c", 0, 1), 1)
	makes(t, m, early, 2)
	wantDo(t, m, early, order(2, "u", "c", 1, 2), false, api.OK)
	if at, err := cut.Check(m.Seals()); at != 0 || err != api.OK {
		t.Error("Check:", at, err)
	}
}
