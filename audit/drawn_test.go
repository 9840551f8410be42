package audit_test

import (
	"fmt"
	"math/rand"
	"reflect"
	"slices"
	"testing"

	"pannier/api"
	"pannier/audit"
	"pannier/cart"
	"pannier/model"
	"pannier/vv"
)

// plainClosed asks by the words.
func plainClosed(l []api.Event, v []int) bool {
	for d := range vv.Dots(v) {
		has := false
		for _, e := range l {
			has = has || e.Dot == d
			if e.Dot == d && !vv.Below(e.Deps, v) {
				return false
			}
		}
		if !has {
			return false
		}
	}
	return true
}

func plainTwice(l []api.Event, seals []api.Seal) []api.Dot {
	var dots []api.Dot
	for origin := range api.MaxNodes {
		for seq := range 20 {
			d := dot(origin, seq)
			if slices.ContainsFunc(l, func(e api.Event) bool {
				count := 0
				for _, s := range seals {
					if e.Dot == d && s.Cart == e.Cart && vv.Has(s.Cut, d) && s.Epoch >= e.Epoch {
						count++
					}
				}
				return count >= 2
			}) {
				dots = append(dots, d)
			}
		}
	}
	return dots
}

func plainTags(l []api.Event) bool {
	for _, e := range l {
		for _, f := range l {
			if f.Cart == e.Cart && f.Dot.Origin == e.Dot.Origin && vv.Has(e.Deps, f.Dot) && f.Epoch > e.Epoch {
				return false
			}
		}
	}
	return true
}

func anyVector(rng *rand.Rand) []int {
	v := make([]int, rng.Intn(4))
	for i := range v {
		v[i] = rng.Intn(6) - 1
	}
	return v
}

func anyCart(rng *rand.Rand) string { return []string{"c", "d"}[rng.Intn(2)] }

// anyEvents are any, also such that may not be, and such of one dot.
func anyEvents(rng *rand.Rand) []api.Event {
	var l []api.Event
	for range rng.Intn(12) {
		l = append(l, tagged(rng.Intn(4), in(anyCart(rng), event(rng.Intn(4)-1, rng.Intn(5), anyVector(rng)...))))
	}
	return l
}

func anySeals(rng *rand.Rand) []api.Seal {
	var l []api.Seal
	for range rng.Intn(6) {
		l = append(l, seal(anyCart(rng), rng.Intn(4), anyVector(rng)...))
	}
	return l
}

// TestAsTheWords: of any events, vectors and seals.
func TestAsTheWords(t *testing.T) {
	rng := rand.New(rand.NewSource(1))
	var closed, cuts, twice, tags int
	for range 30000 {
		l, v, some := anyEvents(rng), anyVector(rng), anySeals(rng)
		wanted := plainClosed(l, v)
		wantClosed(t, "any", l, v, wanted)
		at := slices.IndexFunc(some, func(s api.Seal) bool { return !plainClosed(l, s.Cut) })
		if at < 0 {
			wantCuts(t, "any", l, some, len(some), true)
		} else {
			wantCuts(t, "any", l, some, at, false)
			cuts += min(at, 1)
		}
		dots := plainTwice(l, some)
		wantTwice(t, "any", l, some, dots...)
		wantTags(t, "any", l, plainTags(l))
		if wanted && vv.Count(v) > 0 {
			closed++
		}
		if len(dots) > 0 {
			twice++
		}
		if !plainTags(l) {
			tags++
		}
		if t.Failed() {
			return
		}
	}
	if closed < 100 || cuts < 300 || twice < 300 || tags < 300 {
		t.Errorf("too little happened: %d, %d, %d, %d", closed, cuts, twice, tags)
	}
}

// history are events as three nodes make them, each having seen what it was told of the others.
func history(rng *rand.Rand, count int) []api.Event {
	var l []api.Event
	had := make([][]int, 3)
	for len(l) < count {
		id := rng.Intn(3)
		if rng.Intn(2) == 0 {
			had[id] = vv.Merge(had[id], had[rng.Intn(3)])
			continue
		}
		seq := vv.Of(had[id], id) + 1
		l = append(l, adds([]string{"tea", "jam", "ale"}[rng.Intn(3)], rng.Intn(5), in(anyCart(rng), event(id, seq, had[id]...))))
		had[id], _ = vv.With(had[id], id, seq)
	}
	return l
}

// TestTwoClosed: what two closed vectors have together, and what either has, is closed.
func TestTwoClosed(t *testing.T) {
	rng := rand.New(rand.NewSource(2))
	both, apart, one := 0, 0, 0
	for range 3000 {
		l := history(rng, 3+rng.Intn(20))
		rng.Shuffle(len(l), func(i, j int) { l[i], l[j] = l[j], l[i] })
		for range 20 {
			a, b := anyVector(rng), anyVector(rng)
			if !audit.Closed(l, a) || !audit.Closed(l, b) {
				one++
				continue
			}
			wantClosed(t, "either", l, vv.Merge(a, b), true)
			wantClosed(t, "together", l, vv.Meet(a, b), true)
			if vv.Count(a) > 0 && vv.Count(b) > 0 {
				both++
			}
			if vv.Compare(a, b) == 2 {
				apart++
			}
		}
		if t.Failed() {
			return
		}
	}
	if both < 1000 || apart < 300 || one < 1000 {
		t.Errorf("%d with dots, %d apart, %d where one is not closed", both, apart, one)
	}
}

// TestSoldAndLeft: of events that clear nothing, they are all that was added, whatever was sealed.
func TestSoldAndLeft(t *testing.T) {
	rng := rand.New(rand.NewSource(3))
	sold, left := 0, 0
	for range 2000 {
		m := model.New()
		l := history(rng, rng.Intn(30))
		added := map[string]int{}
		for _, e := range l {
			e.Epoch = rng.Intn(3)
			if err := m.Event(e); err != api.OK {
				t.Fatal(err)
			}
			added[e.Sku] += e.Qty
		}
		for i := range rng.Intn(6) {
			name := anyCart(rng)
			m.Entry(api.Entry{Noop: rng.Intn(8) == 0, Seal: api.Seal{Token: fmt.Sprint("t", i), Cart: name, Epoch: m.Epoch(name), Cut: vv.Merge(anyVector(rng), nil)}})
		}
		for _, x := range audit.Sales(m) {
			added[x.Sku] -= x.Qty
			sold += x.Qty
		}
		for _, x := range audit.Left(m) {
			added[x.Sku] -= x.Qty
			left += x.Qty
		}
		for sku, n := range added {
			if n != 0 {
				t.Fatalf("%d %s of %+v are not there, or twice: %+v", n, sku, m.Events(), m.Seals(m.Entries()))
			}
		}
	}
	if sold < 1000 || left < 1000 {
		t.Errorf("%d were sold, %d are left", sold, left)
	}
}

// plainLines adds up lines, one by one.
func plainLines(lists ...[]api.Line) []api.Line {
	var l []api.Line
	for _, more := range lists {
		for _, x := range more {
			at := slices.IndexFunc(l, func(y api.Line) bool { return x.Sku == y.Sku })
			if at < 0 {
				l = append(l, x)
			} else {
				l[at].Qty += x.Qty
			}
		}
	}
	slices.SortFunc(l, func(a, b api.Line) int {
		if a.Sku < b.Sku {
			return -1
		}
		return 1
	})
	return l
}

// TestSalesAsReceipts: with clearings too, orders are what receipts tell, and carts what is read by all events
// and entries.
func TestSalesAsReceipts(t *testing.T) {
	rng := rand.New(rand.NewSource(4))
	for range 2000 {
		m := model.New()
		for _, e := range history(rng, rng.Intn(30)) {
			e.Epoch, e.Clears = rng.Intn(3), rng.Intn(3) == 0
			m.Event(e)
		}
		for i := range rng.Intn(6) {
			name := anyCart(rng)
			m.Entry(api.Entry{Seal: api.Seal{Token: fmt.Sprint("t", i), Cart: name, Epoch: m.Epoch(name), Cut: vv.Merge(anyVector(rng), nil)}})
		}
		var orders, open [][]api.Line
		for _, o := range m.Orders() {
			lines, is := m.Receipt(o.Id)
			if !is {
				t.Fatal("no receipt of", o)
			}
			orders = append(orders, lines)
		}
		for _, name := range cart.Carts(m.Events()) {
			open = append(open, m.Cart(name, []int{99, 99, 99}, m.Entries()))
		}
		wantSales(t, "by receipts", m, plainLines(orders...)...)
		wantLeft(t, "by carts", m, plainLines(open...)...)
		if t.Failed() {
			return
		}
	}
}

// TestArgumentsStay: what is handed in, and the room behind it, is not changed; what is answered is new.
func TestArgumentsStay(t *testing.T) {
	rng := rand.New(rand.NewSource(5))
	l := history(rng, 20)
	some := seals(seal("c", 0, 1, 1, 1), seal("c", 1, 9, 9, 9), seal("d", 0, 2, 2, 2), seal("d", 1, 3, 3, 3))
	log := []api.Entry{{Seal: some[0]}, {Seal: some[1]}, {Noop: true}}
	v := []int{1, 2, 3, 0, 4}
	before := fmt.Sprintf("%+v %+v %+v %v", l, some, log, v)
	look := func() []any {
		at, closed := audit.Cuts(l[:15], some[:3])
		count, agree := audit.Agree(log[:2], log[1:])
		return []any{audit.Closed(l[:15], v[:3]), at, closed, count, agree, audit.Twice(l[:15], some[:3]), audit.Tags(l[:15])}
	}
	told := look()
	if after := fmt.Sprintf("%+v %+v %+v %v", l, some, log, v); after != before {
		t.Errorf("%s, not %s", after, before)
	}
	dots := audit.Twice(l[:15], some[:3])
	if len(dots) == 0 {
		t.Fatal("no dot is there twice")
	}
	dots = dots[:cap(dots)]
	for i := range dots {
		dots[i] = dot(9, 9)
	}
	if again := look(); !reflect.DeepEqual(again, told) {
		t.Errorf("again: %v, not %v", again, told)
	}
}

// TestMany: so many events, seals and orders that nobody could hold each against each.
func TestMany(t *testing.T) {
	m := model.New()
	var l []api.Event
	var some []api.Seal
	for i := range 30000 {
		e := in(fmt.Sprint("c", i%10000), event(i%3, i/3+1, vv.Plain([]int{i / 3, i / 3, i / 3})...))
		l = append(l, e)
		if err := m.Event(e); err != api.OK {
			t.Fatal(e, err)
		}
	}
	for i := range 10000 {
		s := seal(fmt.Sprint("c", i), 0, 5000, 5000, 5000)
		some = append(some, s)
		m.Entry(api.Entry{Seal: s})
	}
	wantSales(t, "many", m, line("tea", 15000))
	wantLeft(t, "many", m, line("tea", 15000))
	if !audit.Tags(l) || !audit.Closed(l, []int{10000, 10000, 10000}) || audit.Closed(l, []int{10000, 9998, 10000}) {
		t.Error("tags, or vectors")
	}
	if dots := audit.Twice(l, append(some, some...)); len(dots) != 15000 {
		t.Error("twice:", len(dots))
	}
	if n, is := audit.Cuts(l, some[:100]); n != 100 || !is {
		t.Error("cuts:", n, is)
	}
}

// TestManyOrdersOfOneCart: nor each order against each event again.
func TestManyOrdersOfOneCart(t *testing.T) {
	m := model.New()
	for i := range 6000 {
		m.Event(tagged(i/4, event(0, i+1, vv.Plain([]int{i})...)))
		if i%4 == 3 {
			m.Entry(api.Entry{Seal: seal("c", i/4, i)})
		}
	}
	// What comes too late for an order is in the next one, but for the last.
	wantSales(t, "many orders", m, line("tea", 5999))
	wantLeft(t, "many orders", m, line("tea", 1))
}
