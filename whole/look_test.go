package whole_test

import (
	"fmt"
	"slices"

	"pannier/api"
	"pannier/audit"
	"pannier/cart"
	"pannier/cut"
	"pannier/lin"
	"pannier/model"
	"pannier/vv"
)

// asked is a call that was taken, and what was told, if anything.
type asked struct {
	api.Made
	told *api.Told
}

// is asks whether it is a call of that kind that was told without an error.
func (a asked) is(kind int) bool {
	return a.Call.Kind == kind && a.told != nil && a.told.Answer.Err == api.OK
}

// calls are those of a shard, in order.
func (w *world) calls(shard int) []asked {
	w.t.Helper()
	told := map[int]*api.Told{}
	for _, x := range w.c.Told() {
		if told[x.Answer.Id] != nil {
			w.fail("told twice: %+v", x)
		}
		told[x.Answer.Id] = &x
	}
	var l []asked
	for _, m := range w.c.Made() {
		if m.Shard == shard {
			a := asked{m, told[m.Call.Id]}
			if a.told != nil && (a.told.Shard != m.Shard || a.told.Node != m.Node || a.told.Step <= m.Step) {
				w.fail("%+v was told %+v", m, *a.told)
			}
			l = append(l, a)
		}
	}
	return l
}

// model is what follows from all that the nodes of a shard have.
func (w *world) model(shard int) *model.Model {
	w.t.Helper()
	m := model.New()
	for id := range w.config.Nodes {
		for _, e := range w.c.Node(shard, id).Events() {
			if err := m.Event(e); err != api.OK && err != api.ErrTwice {
				w.fail("%+v of node %d: %d", e, id, err)
			}
		}
		w.lookAtLog(shard, id)
	}
	for _, e := range w.logs[shard] {
		m.Entry(e)
	}
	return m
}

// look holds all that was told against the promises of the whole. All nodes are up.
func (w *world) look() {
	w.t.Helper()
	for shard := range w.shards {
		m, calls := w.model(shard), w.calls(shard)
		w.wantRow(m, calls)
		w.wantCuts(m)
		w.wantOrders(m, calls)
		w.wantSales(m)
		w.wantReads(shard, m, calls)
		w.wantUpdates(shard, m, calls)
	}
	w.wantOneLease()
}

// sights are the checkouts and statuses, as clients saw them. Who was told an error knows nothing: the call may
// be carried out yet.
func sights(calls []asked) []api.Seen {
	var l []api.Seen
	for _, a := range calls {
		if a.Call.Kind != api.CallCheckout && a.Call.Kind != api.CallStatus {
			continue
		}
		s := api.Seen{Checkout: a.Call.Kind == api.CallCheckout, Token: a.Call.Token, Begin: a.Step}
		if a.is(a.Call.Kind) {
			s.End, s.Id = a.told.Step, a.told.Answer.Order.Id
		}
		l = append(l, s)
	}
	return l
}

// wantRow: P1, and that what was chosen was asked for.
func (w *world) wantRow(m *model.Model, calls []asked) {
	w.t.Helper()
	if !w.c.Keeps(w.config.Drift) {
		w.fail("the clocks do not keep the drift")
	}
	var tokens []string
	for _, o := range m.Orders() {
		tokens = append(tokens, o.Token)
	}
	l := sights(calls)
	if err := lin.Check(l, tokens); err != api.OK {
		w.fail("%+v are in no row, of %q: %d", l, tokens, err)
	}
	for _, s := range l {
		// Who asks when all is over must be told.
		late := api.Seen{Token: s.Token, Begin: w.c.Steps() + 1, End: w.c.Steps() + 1}
		if err := lin.Check(append(l, late), tokens); s.Id > 0 && err != api.ErrRow {
			w.fail("%+v, %+v are in a row: %d", l, late, err)
		}
	}
}

// wantCuts: P2 and P3, of what was sealed: it is closed, and epochs are told truly.
func (w *world) wantCuts(m *model.Model) {
	w.t.Helper()
	events, seals := m.Events(), m.Seals(m.Entries())
	if n, closed := audit.Cuts(events, seals); !closed || n != len(seals) {
		w.fail("seal %d of %+v is not closed in %+v", n, seals, events)
	}
	if !audit.Tags(events) {
		w.fail("an epoch is below an elder one: %+v", events)
	}
	if n, err := cut.Check(seals); err != api.OK {
		w.fail("seal %d of %+v does not follow", n, seals)
	}
}

// wantOrders: P2, of what was told.
func (w *world) wantOrders(m *model.Model, calls []asked) {
	w.t.Helper()
	for _, a := range calls {
		switch {
		case a.is(api.CallCheckout):
			told := a.told.Answer
			o, known := m.Token(a.Call.Token, told.Learned)
			lines, is := m.Receipt(o.Id)
			if !known || !told.Known || !same(o, told.Order) || !is || !cart.Same(lines, told.Lines) {
				w.fail("%+v was told %+v, not %+v, %v", a.Made, told, o, lines)
			}
		case a.is(api.CallStatus):
			told := a.told.Answer
			if o, known := m.Token(a.Call.Token, told.Learned); known != told.Known || !same(o, told.Order) {
				w.fail("%+v was told %+v, not %+v, %v", a.Made, told, o, known)
			}
		}
	}
	for _, o := range m.Orders() {
		if !slices.ContainsFunc(calls, func(a asked) bool { return w.made(m, o, a, calls) }) {
			w.fail("no checkout made %+v of all that it must have", o)
		}
	}
}

// made asks whether a checkout is of an order's token, and all that its node had told ahead of it is in the
// order, or in an earlier one.
func (w *world) made(m *model.Model, o api.Order, a asked, calls []asked) bool {
	if a.Call.Kind != api.CallCheckout || a.Call.Token != o.Token || a.Call.Cart != o.Cart {
		return false
	}
	seals := m.Seals(m.Entries())
	return !slices.ContainsFunc(calls, func(b asked) bool {
		if !b.is(api.CallUpdate) || b.Call.Cart != o.Cart || b.Node != a.Node || b.told.Step > a.Step {
			return false
		}
		epoch, belongs := cut.Belongs(w.event(m, b.told.Answer.Dot), seals)
		return !belongs || epoch > o.Epoch
	})
}

// event is that of a dot that was told.
func (w *world) event(m *model.Model, d api.Dot) api.Event {
	w.t.Helper()
	l := m.Events()
	at := slices.IndexFunc(l, func(e api.Event) bool { return e.Dot == d })
	if at < 0 {
		w.fail("%v was told, and is not there", d)
	}
	return l[at]
}

// wantSales: P2 and P3, of what was added: where nothing was cleared, all of it is sold or left.
func (w *world) wantSales(m *model.Model) {
	w.t.Helper()
	sums := map[string]int{}
	for _, e := range m.Events() {
		if e.Clears {
			return
		}
		sums[e.Sku] += e.Qty
	}
	for _, line := range append(audit.Sales(m), audit.Left(m)...) {
		sums[line.Sku] -= line.Qty
	}
	for sku, n := range sums {
		if n != 0 {
			w.fail("of all the %s %d are nowhere, or there twice", sku, n)
		}
	}
}

// wantReads: P3, of what was told, and of what nodes have now.
func (w *world) wantReads(shard int, m *model.Model, calls []asked) {
	w.t.Helper()
	events := m.Events()
	for _, a := range calls {
		if a.told == nil {
			continue
		}
		told := a.told.Answer
		if !audit.Closed(events, told.Applied) {
			w.fail("%+v was told by what is not closed: %v", a.Made, told.Applied)
		}
		if lines := m.Cart(a.Call.Cart, told.Applied, told.Learned); a.is(api.CallRead) && !cart.Same(lines, told.Lines) {
			w.fail("%+v was told %+v, not %v", a.Made, told, lines)
		}
	}
	for id := range w.config.Nodes {
		n := w.c.Node(shard, id)
		if !audit.Closed(events, n.Applied()) {
			w.fail("node %d has applied what is not closed: %v", id, n.Applied())
		}
		for _, name := range carts() {
			if lines := m.Cart(name, n.Applied(), len(n.Entries())); !cart.Same(lines, n.Read(name)) {
				w.fail("node %d reads %v in %s, not %v", id, n.Read(name), name, lines)
			}
		}
	}
}

// wantUpdates: P4: what was told is there, and in all later reads of its node; what was not done is not.
func (w *world) wantUpdates(shard int, m *model.Model, calls []asked) {
	w.t.Helper()
	type update struct {
		node   int
		cart   string
		sku    string
		qty    int
		clears bool
	}
	most, least := map[update]int{}, map[update]int{}
	dots := map[api.Dot]int{}
	for _, a := range calls {
		x := update{a.Node, a.Call.Cart, a.Call.Sku, a.Call.Qty, a.Call.Clears}
		if a.Call.Kind == api.CallUpdate && (a.told == nil || a.told.Answer.Err == api.OK) {
			most[x]++
		}
		if !a.is(api.CallUpdate) {
			continue
		}
		least[x]++
		d := a.told.Answer.Dot
		e := w.event(m, d)
		if dots[d]++; dots[d] > 1 || x != (update{d.Origin, e.Cart, e.Sku, e.Qty, e.Clears}) {
			w.fail("%+v was told %v, which is %+v", a.Made, d, e)
		}
		if !vv.Has(w.c.Node(shard, a.Node).Applied(), d) {
			w.fail("%+v, which was told, is gone", a.Made)
		}
		for _, b := range calls {
			if b.is(api.CallRead) && b.Node == a.Node && b.Step > a.told.Step && !vv.Has(b.told.Answer.Applied, d) {
				w.fail("%+v was told without %v", b.Made, d)
			}
		}
	}
	for _, e := range m.Events() {
		x := update{e.Dot.Origin, e.Cart, e.Sku, e.Qty, e.Clears}
		most[x]--
		least[x]--
	}
	for x := range least {
		if most[x] < 0 || least[x] > 0 {
			w.fail("of %+v %d are missing, %d are there that nobody asked for", x, least[x], -most[x])
		}
	}
}

// toldWell are the ids of the calls that were told no error.
func (w *world) toldWell() map[int]bool {
	told := map[int]bool{}
	for _, x := range w.c.Told() {
		told[x.Answer.Id] = x.Answer.Err == api.OK
	}
	return told
}

// wantOneLease: P5, of those who lead at one moment one at most tells from its lease.
func (w *world) wantOneLease() {
	w.t.Helper()
	told := w.toldWell()
	for _, ids := range w.probes {
		if l := slices.DeleteFunc(slices.Clone(ids), func(id int) bool { return !told[id] }); len(l) > 1 {
			w.fail("leases count at once: those of the calls %v", l)
		}
	}
}

// wantAlike: P5, when all was said: all nodes have the same log and the same carts, which are all that is left.
func (w *world) wantAlike(shard int) {
	w.t.Helper()
	m := w.model(shard)
	for id := range w.config.Nodes {
		n := w.c.Node(shard, id)
		if len(n.Entries()) != len(w.logs[shard]) || vv.Count(n.Applied()) != len(m.Events()) {
			w.fail("node %d of shard %d has not learned or applied all", id, shard)
		}
		sums := map[string]int{}
		for _, name := range carts() {
			for _, line := range n.Read(name) {
				sums[line.Sku] += line.Qty
			}
		}
		for _, line := range audit.Left(m) {
			sums[line.Sku] -= line.Qty
		}
		for sku, sum := range sums {
			if sum != 0 {
				w.fail("node %d of shard %d has %d %s more than are left", id, shard, sum, sku)
			}
		}
	}
}

// same asks by texts, in which nil and the empty list are the same.
func same(a, b any) bool {
	return fmt.Sprintf("%+v", a) == fmt.Sprintf("%+v", b)
}

// picture is all that a world tells.
func (w *world) picture() string {
	s := fmt.Sprintf("%d %+v %+v", w.c.Steps(), w.c.Made(), w.c.Told())
	for shard := range w.shards {
		s += fmt.Sprintf("\nshard %d: %+v", shard, w.c.Packets(shard))
		for id := range w.config.Nodes {
			n := w.c.Node(shard, id)
			s += fmt.Sprintf("\n%v %d %d %d %d %v", w.c.Up(shard, id), w.c.Now(shard, id), n.Held(), n.Waits(), n.Phase(), n.Applied())
			s += fmt.Sprintf(" %+v %+v %+v %+v", n.Events(), n.Entries(), n.Promised(), n.Votes())
		}
	}
	return s
}
