package cut_test

import (
	"math/rand"
	"slices"
	"strconv"
	"strings"
	"testing"

	"pannier/api"
	"pannier/cart"
	"pannier/codec"
	"pannier/cut"
	"pannier/vv"
)

// plainBelongs tells by the document's words alone the place of the seal to which e belongs; -1, if to none.
func plainBelongs(e api.Event, seals []api.Seal) int {
	for at, s := range seals {
		if s.Cart == e.Cart && s.Epoch >= e.Epoch && vv.Has(s.Cut, e.Dot) {
			return at
		}
	}
	return -1
}

func plainCheck(seals []api.Seal) (int, api.Errno) {
	for at, s := range seals {
		ahead := 0
		for _, a := range seals[:at] {
			if a.Cart == s.Cart {
				ahead++
			}
		}
		if _, err := codec.Seal(s); err != api.OK || s.Epoch != ahead {
			return at, api.ErrSeal
		}
	}
	return 0, api.OK
}

// plainLines tells the lines of the cart's events that belong to a seal for which is holds (of its place).
func plainLines(l []api.Event, seals []api.Seal, name string, is func(at int) bool) []api.Line {
	var events []api.Event
	for _, e := range l {
		if e.Cart == name && is(plainBelongs(e, seals)) {
			events = append(events, e)
		}
	}
	return cart.Lines(events, name)
}

func anyVector(rng *rand.Rand) []int {
	var v []int
	for range rng.Intn(4) {
		v = append(v, rng.Intn(5)-rng.Intn(8)/7)
	}
	return v
}

func anyName(rng *rand.Rand) string {
	return []string{"c", "c", "d", "e"}[rng.Intn(4)]
}

func anyEvents(rng *rand.Rand) []api.Event {
	var l []api.Event
	for range rng.Intn(15) {
		e := event(rng.Intn(4), rng.Intn(5), rng.Intn(5)-1, rng.Intn(5)-1, anyVector(rng)...)
		e.Cart, e.Sku, e.Clears = anyName(rng), []string{"jam", "tea"}[rng.Intn(2)], rng.Intn(3) == 0
		l = append(l, e)
	}
	return l
}

// anySeals are such as follow, and, if wild, now and then one that does not.
func anySeals(rng *rand.Rand, wild bool) []api.Seal {
	var seals []api.Seal
	for range rng.Intn(8) {
		name := anyName(rng)
		s := seal(name, cut.Epoch(seals, name), vv.Plain(vv.Merge(anyVector(rng), nil))...)
		if wild && rng.Intn(4) == 0 {
			s.Epoch = rng.Intn(6) - 1
		}
		if wild && rng.Intn(12) == 0 {
			s.Token, s.Cut = strings.Repeat("t", 32*rng.Intn(3)), anyVector(rng)
		}
		seals = append(seals, s)
	}
	return seals
}

// Of any events and seals the package tells what the plain one tells.
func TestAsThePlainOne(t *testing.T) {
	rng := rand.New(rand.NewSource(1))
	followed := 0
	for range 20000 {
		l, seals := anyEvents(rng), anySeals(rng, rng.Intn(2) == 0)
		at, err := plainCheck(seals)
		wantCheck(t, seals, at, err)
		if err == api.OK {
			followed++
		}
		var ordered, open []api.Event
		for _, e := range l {
			n, is := cut.Belongs(e, seals)
			if at := plainBelongs(e, seals); is != (at >= 0) || is && n != seals[at].Epoch || !is && n != 0 {
				t.Errorf("Belongs(%v): %d, %v", e, n, is)
			}
			if is {
				ordered = append(ordered, e)
			} else {
				open = append(open, e)
			}
		}
		a, b := cut.Split(l, seals)
		wantEvents(t, "ordered", a, ordered)
		wantEvents(t, "open", b, open)
		for _, name := range []string{"c", "d", "e", "f"} {
			wantLines(t, "Open", cut.Open(l, seals, name), plainLines(l, seals, name, func(at int) bool { return at < 0 }))
			for epoch := -2; epoch < 8; epoch++ {
				wanted := plainLines(l, seals, name, func(at int) bool { return at >= 0 && seals[at].Epoch == epoch })
				wantLines(t, "Order", cut.Order(l, seals, name, epoch), wanted)
			}
		}
		if t.Failed() {
			t.Fatal(l, seals)
		}
	}
	if followed < 10000 || followed > 19000 {
		t.Errorf("%d of the lists followed", followed)
	}
}

// Of seals that follow: each event is in one order, or in the open cart; and further seals take nothing out of an order.
func TestEachEventBelongsOnce(t *testing.T) {
	rng := rand.New(rand.NewSource(2))
	for range 5000 {
		l, seals := anyEvents(rng), anySeals(rng, false)
		for _, e := range l {
			one := []api.Event{e}
			one[0].Qty = 1
			in := cart.Total(cut.Open(one, seals, e.Cart))
			for _, s := range seals {
				in += cart.Total(cut.Order(one, seals, s.Cart, s.Epoch))
			}
			if in != 1 {
				t.Fatalf("%v is %d times in %v", e, in, seals)
			}
			belonged, had := 0, false
			for n := range len(seals) + 1 {
				now, is := cut.Belongs(e, seals[:n])
				if had && (!is || now != belonged) {
					t.Fatalf("%v belonged to %d, and by %v to %d, %v", e, belonged, seals[:n], now, is)
				}
				belonged, had = now, is
			}
		}
		for n := range len(seals) + 1 {
			for _, s := range seals[:n] {
				wantLines(t, "an order, with further seals", cut.Order(l, seals, s.Cart, s.Epoch), cut.Order(l, seals[:n], s.Cart, s.Epoch))
			}
		}
		if t.Failed() {
			t.Fatal(l, seals)
		}
	}
}

// history is what some origins make, each event behind some of what was made ahead of it.
func history(rng *rand.Rand, origins, events int) []api.Event {
	var l []api.Event
	seen := make([][]int, origins)
	for range events {
		origin := rng.Intn(origins)
		if rng.Intn(2) == 0 {
			seen[origin] = vv.Merge(seen[origin], seen[rng.Intn(origins)])
		}
		e := event(origin, vv.Of(seen[origin], origin)+1, rng.Intn(3), rng.Intn(5), slices.Clone(seen[origin])...)
		e.Cart, e.Sku, e.Clears = anyName(rng), []string{"jam", "tea"}[rng.Intn(2)], rng.Intn(4) == 0
		seen[origin], _ = vv.With(seen[origin], origin, e.Dot.Seq)
		l = append(l, e)
	}
	return l
}

// applied is how many events of each origin l has, without a gap ahead of them.
func applied(l []api.Event) []int {
	v := make([]int, 4)
	for origin := range v {
		for slices.ContainsFunc(l, func(e api.Event) bool { return e.Dot == api.Dot{Origin: origin, Seq: v[origin] + 1} }) {
			v[origin]++
		}
	}
	return vv.Plain(v)
}

// What an order is told to be does not change any more when it is whole, whatever else comes.
func TestWholeOrdersStay(t *testing.T) {
	rng := rand.New(rand.NewSource(3))
	whole, late := 0, 0
	for range 1500 {
		all, seals := history(rng, 1+rng.Intn(4), 25), anySeals(rng, false)
		type order struct {
			name  string
			epoch int
		}
		told := map[order][]api.Line{}
		for n := range len(all) + 1 {
			l := all[:n]
			for _, s := range seals {
				lines := cut.Order(l, seals, s.Cart, s.Epoch)
				if was, is := told[order{s.Cart, s.Epoch}]; is {
					wantLines(t, "a whole order", lines, was)
				}
				if cut.Whole(applied(l), seals, s.Cart, s.Epoch) {
					told[order{s.Cart, s.Epoch}] = lines
					whole++
				}
			}
		}
		// What no cut has is in the open cart, and the next seal may take it.
		_, open := cut.Split(all, seals)
		for _, name := range []string{"c", "d", "e"} {
			var mine []api.Event
			for _, e := range open {
				if e.Cart == name && e.Epoch <= cut.Epoch(seals, name) {
					mine = append(mine, e)
				}
			}
			next := append(slices.Clone(seals), seal(name, cut.Epoch(seals, name), applied(all)...))
			wantLines(t, "the next order", cut.Order(all, next, name, cut.Epoch(seals, name)), cart.Lines(mine, name))
			if len(mine) > 0 && cut.Epoch(seals, name) > 0 {
				late++
			}
		}
		if t.Failed() {
			t.Fatal(all, seals)
		}
	}
	if whole < 1000 || late < 1000 {
		t.Errorf("%d whole orders, %d late ones", whole, late)
	}
}

// Many carts' seals and events take no time that grows with the product of both.
func TestManyCarts(t *testing.T) {
	const size = 1 << 15
	l, seals := make([]api.Event, size), make([]api.Seal, size)
	for i := range size {
		name := "c" + strconv.Itoa(i)
		l[i], seals[size-1-i] = of(name, event(0, i+1, 0, 1)), seal(name, 0, size)
	}
	ordered, open := cut.Split(l, seals)
	if len(ordered) != size || len(open) != 0 {
		t.Error(len(ordered), len(open))
	}
	for i := range 200 {
		if cut.Epoch(seals, l[i].Cart) != 1 || cart.Total(cut.Order(l, seals, l[i].Cart, 0)) != 1 || len(cut.Open(l, seals, l[i].Cart)) != 0 {
			t.Fatal(l[i].Cart)
		}
	}
}
