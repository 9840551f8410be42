package model_test

import (
	"math/rand"
	"reflect"
	"slices"
	"testing"

	"pannier/api"
	"pannier/cart"
	"pannier/cut"
	"pannier/model"
	"pannier/replica"
	"pannier/seal"
	"pannier/vv"
)

// plain is a model by the document's words alone: all events, and all entries, which are carried out anew each time.
type plain struct {
	events  []api.Event
	entries []api.Entry
}

func (p *plain) event(e api.Event) api.Errno {
	for _, other := range p.events {
		if sameEvent(e, other) {
			return api.ErrTwice
		}
		if e.Dot == other.Dot {
			return api.ErrClash
		}
	}
	p.events = append(p.events, e)
	return api.OK
}

// machine is one that carried out the first n entries.
func (p *plain) machine(n int) *seal.Machine {
	m := seal.New()
	for _, e := range p.entries[:max(0, min(n, len(p.entries)))] {
		m.Do(e)
	}
	return m
}

func (p *plain) entry(e api.Entry) (api.Order, bool, api.Errno) {
	m := p.machine(len(p.entries))
	p.entries = append(p.entries, e)
	return m.Do(e)
}

func (p *plain) cart(name string, applied []int, n int) []api.Line {
	return cut.Open(cart.Cut(p.events, applied), p.machine(n).Seals(), name)
}

func (p *plain) receipt(id int) ([]api.Line, bool) {
	m := p.machine(len(p.entries))
	o, is := m.Get(id)
	if !is {
		return nil, false
	}
	return cut.Order(p.events, m.Seals(), o.Cart, o.Epoch), true
}

func (p *plain) fork() *plain {
	return &plain{slices.Clone(p.events), slices.Clone(p.entries)}
}

// wantSame looks whether m tells all that p tells.
func wantSame(t *testing.T, rng *rand.Rand, m *model.Model, p *plain) {
	t.Helper()
	wantEvents(t, "as the plain one", m, cart.Merge(p.events, nil)...)
	if m.Entries() != len(p.entries) {
		t.Errorf("Entries: %d, not %d", m.Entries(), len(p.entries))
	}
	for n := -1; n <= len(p.entries)+1; n++ {
		then := p.machine(n)
		if got := m.Seals(n); !slices.EqualFunc(got, then.Seals(), sameSeal) {
			t.Errorf("Seals(%d): %v, not %v", n, got, then.Seals())
		}
		applied := []int{rng.Intn(7) - 1, rng.Intn(7) - 1, rng.Intn(6)}
		for _, name := range []string{"c", "d", "e"} {
			wantCart(t, m, name, applied, n, p.cart(name, applied, n))
		}
		for _, token := range []string{"a", "b", "f"} {
			o, _ := then.Token(token)
			wantToken(t, m, token, n, o)
		}
	}
	for id := -1; id <= len(p.entries)+1; id++ {
		if lines, is := p.receipt(id); is {
			wantReceipt(t, m, id, lines)
		} else {
			wantNoReceipts(t, m, id)
		}
	}
}

func anyVector(rng *rand.Rand) []int {
	return vv.Plain([]int{rng.Intn(5), rng.Intn(5), rng.Intn(3)}[:rng.Intn(4)])
}

func anyCart(rng *rand.Rand) string {
	return []string{"c", "c", "d"}[rng.Intn(3)]
}

// anyEvent is of few dots, so that some come twice, and others clash.
func anyEvent(rng *rand.Rand) api.Event {
	e := of(anyCart(rng), rng.Intn(3), event(rng.Intn(3), rng.Intn(6), rng.Intn(9), anyVector(rng)...))
	e.Clears = rng.Intn(4) == 0
	if rng.Intn(3) == 0 {
		e.Sku = "jam"
	}
	return e
}

// anyEntry has an epoch near its cart's, most often just that.
func anyEntry(rng *rand.Rand, epoch func(cart string) int) api.Entry {
	if rng.Intn(6) == 0 {
		return noop()
	}
	name := anyCart(rng)
	at := epoch(name)
	if rng.Intn(3) == 0 {
		at = max(0, at+rng.Intn(4)-2)
	}
	return entry(string("abcdefghijkl"[rng.Intn(12)]), name, at, anyVector(rng)...)
}

// Of any events and entries a model, and its forks, tell what the plain one tells.
func TestAsThePlainOne(t *testing.T) {
	orders, told := 0, map[api.Errno]int{}
	for seed := range int64(400) {
		rng := rand.New(rand.NewSource(seed))
		m, p := model.New(), &plain{}
		for range 40 {
			switch rng.Intn(5) {
			case 0, 1:
				e := anyEvent(rng)
				if len(p.events) > 0 && rng.Intn(5) == 0 {
					e = p.events[rng.Intn(len(p.events))]
				}
				err := p.event(e)
				wantEvent(t, m, e, err)
				told[err]++
			case 2, 3:
				e := anyEntry(rng, p.machine(len(p.entries)).Epoch)
				o, made, err := p.entry(e)
				wantEntry(t, m, e, o, made, err)
			default:
				other := m
				m = m.Fork()
				other.Event(anyEvent(rng))
				other.Entry(anyEntry(rng, func(string) int { return 0 }))
			}
		}
		wantSame(t, rng, m, p)
		orders += len(m.Seals(99))
		if t.Failed() {
			t.Fatalf("seed %d", seed)
		}
	}
	if orders < 1000 || told[api.ErrTwice] < 100 || told[api.ErrClash] < 1000 {
		t.Errorf("%d orders, events: %v", orders, told)
	}
}

// history is what some origins make, each event behind some of what was made ahead of it, and without clearing
// unless it may.
func history(rng *rand.Rand, events int, clears bool) []api.Event {
	var l []api.Event
	seen := make([][]int, 3)
	for range events {
		origin := rng.Intn(len(seen))
		if rng.Intn(2) == 0 {
			seen[origin] = vv.Merge(seen[origin], seen[rng.Intn(len(seen))])
		}
		e := of(anyCart(rng), rng.Intn(3), event(origin, vv.Of(seen[origin], origin)+1, 1+rng.Intn(9), slices.Clone(seen[origin])...))
		e.Clears = clears && rng.Intn(4) == 0
		seen[origin], _ = vv.With(seen[origin], origin, e.Dot.Seq)
		l = append(l, e)
	}
	return l
}

// dots is how many events of each origin there are; a history has no gaps.
func dots(l []api.Event) []int {
	var v []int
	for _, e := range l {
		v, _ = vv.With(v, e.Dot.Origin, max(vv.Of(v, e.Dot.Origin), e.Dot.Seq))
	}
	return v
}

// P20.3: two models that have what is applied, and the first n entries, tell the same, whatever else they
// have, and in whatever order it came.
func TestCartsHangOnWhatIsAppliedAndLearned(t *testing.T) {
	told := 0
	for seed := range int64(300) {
		rng := rand.New(rand.NewSource(seed))
		all := history(rng, 30, true)
		p := &plain{}
		for range 12 {
			p.entry(anyEntry(rng, p.machine(len(p.entries)).Epoch))
		}
		many, n := 1+rng.Intn(30), rng.Intn(13)
		applied := dots(all[:many])
		few, more := model.New(), model.New()
		for _, e := range all[:many] {
			few.Event(e)
		}
		for _, e := range p.entries[:n] {
			few.Entry(e)
		}
		for _, e := range p.entries {
			more.Entry(e)
		}
		for _, at := range rng.Perm(len(all)) {
			more.Event(all[at])
		}
		for _, name := range []string{"c", "d"} {
			wanted := few.Cart(name, applied, n)
			wantCart(t, more, name, applied, n, wanted)
			wantCart(t, few, name, dots(all), 99, wanted)
			told += len(wanted)
		}
		if t.Failed() {
			t.Fatalf("seed %d", seed)
		}
	}
	if told < 200 {
		t.Errorf("%d lines were told", told)
	}
}

// P20.4: a receipt all of whose cut is there stays as it is, whatever comes.
func TestWholeReceiptsStay(t *testing.T) {
	whole, lines := 0, 0
	for seed := range int64(300) {
		rng := rand.New(rand.NewSource(seed))
		m, events := model.New(), history(rng, 30, true)
		receipts := map[int][]api.Line{}
		for at := 0; at < len(events); {
			if rng.Intn(4) == 0 {
				m.Entry(anyEntry(rng, m.Epoch))
			} else {
				m.Event(events[at])
				at++
			}
			for i, s := range m.Seals(m.Entries()) {
				if was, is := receipts[i+1]; is {
					wantReceipt(t, m, i+1, was)
				} else if vv.Below(s.Cut, dots(events[:at])) {
					receipts[i+1], _ = m.Receipt(i + 1)
					whole, lines = whole+1, lines+len(receipts[i+1])
				}
			}
		}
		if t.Failed() {
			t.Fatalf("seed %d", seed)
		}
	}
	if whole < 500 || lines < 300 {
		t.Errorf("%d whole receipts, %d lines", whole, lines)
	}
}

// P20.4: each event is in one receipt, or in its open cart.
func TestEachEventIsInOne(t *testing.T) {
	inOrders, inCarts := 0, 0
	for seed := range int64(300) {
		rng := rand.New(rand.NewSource(seed))
		m, events := model.New(), history(rng, 25, false)
		found := map[string]int{}
		for i := range events {
			events[i].Sku = "s" + string("abcdefghijklmnopqrstuvwxy"[i])
			m.Event(events[i])
			m.Entry(anyEntry(rng, m.Epoch))
		}
		for id := 1; ; id++ {
			lines, is := m.Receipt(id)
			if !is {
				break
			}
			inOrders += len(lines)
			for _, l := range lines {
				found[l.Sku] += l.Qty
			}
		}
		for _, name := range []string{"c", "d"} {
			lines := m.Cart(name, dots(events), m.Entries())
			inCarts += len(lines)
			for _, l := range lines {
				found[l.Sku] += l.Qty
			}
		}
		wanted := map[string]int{}
		for _, e := range events {
			wanted[e.Sku] = e.Qty
		}
		if !reflect.DeepEqual(found, wanted) {
			t.Fatalf("seed %d: %v, not %v", seed, found, wanted)
		}
	}
	if inOrders < 1000 || inCarts < 1000 {
		t.Errorf("%d in orders, %d in carts", inOrders, inCarts)
	}
}

// What replicas read is what the model tells of what they applied and learned.
func TestAsReplicasRead(t *testing.T) {
	for seed := range int64(200) {
		rng := rand.New(rand.NewSource(seed))
		m := model.New()
		var replicas []*replica.Replica
		learned := make([]int, 3) // of each replica how many entries
		var made []api.Entry
		for node := range 3 {
			r, _ := replica.New(node)
			replicas = append(replicas, r)
		}
		for range 60 {
			node := rng.Intn(3)
			r, other := replicas[node], replicas[rng.Intn(3)]
			switch rng.Intn(4) {
			case 0, 1:
				e, err := r.Update(anyCart(rng), []string{"jam", "tea"}[rng.Intn(2)], rng.Intn(9), rng.Intn(4) == 0)
				if err != api.OK {
					t.Fatal(err)
				}
				wantEvent(t, m, e, api.OK)
			case 2:
				for _, e := range other.After(r.Applied(), 1+rng.Intn(5)) {
					r.Take(e)
				}
			default:
				name := anyCart(rng)
				e := entry(string("abcdefghijkl"[rng.Intn(12)]), name, r.Epoch(name), r.Applied()...)
				m.Entry(e)
				made = append(made, e)
			}
			for node, r := range replicas {
				for learned[node] < len(made) && rng.Intn(3) == 0 {
					learned[node]++
					ahead := len(m.Seals(learned[node] - 1))
					for _, s := range m.Seals(learned[node])[ahead:] {
						if err := r.Learn(s); err != api.OK {
							t.Fatal(err)
						}
					}
				}
				for _, name := range []string{"c", "d"} {
					wantCart(t, m, name, r.Applied(), learned[node], r.Read(name))
				}
				for id, s := range m.Seals(learned[node]) {
					if lines, whole := r.Order(s.Cart, s.Epoch); whole {
						wantReceipt(t, m, id+1, lines)
					}
				}
			}
			if t.Failed() {
				t.Fatalf("seed %d", seed)
			}
		}
	}
}
