package seal_test

import (
	"math/rand"
	"slices"
	"testing"

	"pannier/api"
	"pannier/cut"
	"pannier/seal"
)

// plain is a machine by the document's words alone: it looks through all orders each time.
type plain struct {
	done   int
	orders []api.Order
}

func (p *plain) do(e api.Entry) (api.Order, bool, api.Errno) {
	p.done++
	if e.Noop {
		return api.Order{}, false, api.OK
	}
	epoch := 0
	for _, o := range p.orders {
		if o.Token == e.Seal.Token {
			return o, false, api.OK
		}
		if o.Cart == e.Seal.Cart {
			epoch++
		}
	}
	if e.Seal.Epoch != epoch {
		return api.Order{}, false, api.ErrStale
	}
	p.orders = append(p.orders, order(len(p.orders)+1, e.Seal.Token, e.Seal.Cart, epoch, e.Seal.Cut...))
	return p.orders[len(p.orders)-1], true, api.OK
}

// both does e with both, and looks whether they tell the same, and whether the seals follow.
func both(t *testing.T, m *seal.Machine, p *plain, e api.Entry) {
	t.Helper()
	o, made, err := p.do(e)
	wantDo(t, m, e, o, made, err)
	wantMachine(t, "as the plain one", m, p.done, p.orders...)
	wantFollow(t, m)
}

// wantFollow looks at P19.3: the seals follow, and no token has two orders.
func wantFollow(t *testing.T, m *seal.Machine) {
	t.Helper()
	seals := m.Seals()
	if at, err := cut.Check(seals); at != 0 || err != api.OK {
		t.Errorf("Check(%v): %d, %d", seals, at, err)
	}
	tokens := map[string]int{}
	for _, s := range seals {
		tokens[s.Token]++
		if tokens[s.Token] > 1 {
			t.Errorf("the token %q has two orders", s.Token)
		}
	}
}

// All scripts of four entries out of some few.
func TestAllShortScripts(t *testing.T) {
	few := []api.Entry{noop()}
	for _, token := range []string{"t", "u", "v"} {
		few = append(few, entry(token, "c", 0, 1), entry(token, "c", 1, 2), entry(token, "d", 0))
	}
	few = append(few, entry("t", "c", 2, 3), entry("u", "d", 1))
	var walk func(m *seal.Machine, p plain, left int)
	walk = func(m *seal.Machine, p plain, left int) {
		if left == 0 || t.Failed() {
			return
		}
		for _, e := range few {
			next, other := m.Fork(), plain{p.done, slices.Clone(p.orders)}
			both(t, next, &other, e)
			walk(next, other, left-1)
		}
	}
	walk(seal.New(), plain{}, 4)
}

// anyEntry is of few tokens and carts, with an epoch near its cart's, most often just that.
func anyEntry(rng *rand.Rand, m *seal.Machine) api.Entry {
	if rng.Intn(6) == 0 {
		return noop()
	}
	cart := []string{"c", "d", "e"}[rng.Intn(3)]
	epoch := m.Epoch(cart)
	if rng.Intn(3) == 0 {
		epoch = max(0, epoch+rng.Intn(4)-2)
	}
	token := string("abcdefghijklmnopqrst"[rng.Intn(20)])
	return entry(token, cart, epoch, []int{rng.Intn(4), 1 + rng.Intn(3)}[:2*rng.Intn(2)]...)
}

// Of any entries a machine, and its forks, tell what the plain one tells.
func TestAsThePlainOne(t *testing.T) {
	for seed := range int64(300) {
		rng := rand.New(rand.NewSource(seed))
		m, p := seal.New(), &plain{}
		for range 60 {
			both(t, m, p, anyEntry(rng, m))
			if rng.Intn(5) == 0 {
				other := m
				m = m.Fork()
				other.Do(anyEntry(rng, m))
			}
			if rng.Intn(5) == 0 {
				m.Do(api.Entry{}) // nothing is counted
			}
		}
		if t.Failed() {
			t.Fatalf("seed %d", seed)
		}
	}
}

// P19.3 and P19.4: what an order is told to be stays for ever; the same entries make the same; and done
// again, those of which none was ahead of its cart's epoch make nothing.
func TestEntriesAlone(t *testing.T) {
	for seed := range int64(300) {
		rng := rand.New(rand.NewSource(seed))
		m := seal.New()
		var entries []api.Entry
		for range 50 {
			e := anyEntry(rng, m)
			e.Seal.Epoch = min(e.Seal.Epoch, m.Epoch(e.Seal.Cart))
			entries = append(entries, e)
			before := m.Orders()
			m.Do(e)
			if after := m.Orders(); len(after) > len(before)+1 || !slices.EqualFunc(before, after[:len(before)], sameOrder) {
				t.Fatalf("seed %d: orders were %v, and are %v", seed, before, after)
			}
		}
		orders := m.Orders()
		other := seal.New()
		for _, e := range entries {
			other.Epoch("c")
			other.Seals()
			other.Do(e)
		}
		wantMachine(t, "the same entries", other, len(entries), orders...)
		for _, e := range entries {
			if o, made, _ := m.Do(e); made {
				t.Fatalf("seed %d: %v makes %v, done again", seed, e, o)
			}
		}
		wantMachine(t, "done again", m, 2*len(entries), orders...)
		if t.Failed() {
			t.Fatalf("seed %d", seed)
		}
	}
}
