package replica_test

import (
	"math"
	"reflect"
	"slices"
	"strings"
	"testing"

	"pannier/api"
	"pannier/replica"
)

// made is a replica of that node, without anything.
func made(t *testing.T, node int) *replica.Replica {
	t.Helper()
	r, err := replica.New(node)
	if r == nil || err != api.OK {
		t.Fatalf("New(%d): %v, %d", node, r, err)
	}
	return r
}

// event is an addition of 1 tea to the cart c.
func event(origin, seq int, deps ...int) api.Event {
	return api.Event{Dot: api.Dot{Origin: origin, Seq: seq}, Deps: deps, Cart: "c", Sku: "tea", Qty: 1}
}

func seal(token, cart string, epoch int, cut ...int) api.Seal {
	return api.Seal{Token: token, Cart: cart, Epoch: epoch, Cut: cut}
}

func sameEvent(a, b api.Event) bool {
	deps := slices.Equal(a.Deps, b.Deps)
	a.Deps, b.Deps = nil, nil
	return deps && reflect.DeepEqual(a, b)
}

func sameSeal(a, b api.Seal) bool {
	return a.Token == b.Token && a.Cart == b.Cart && a.Epoch == b.Epoch && slices.Equal(a.Cut, b.Cut)
}

// update makes an update that must be taken.
func update(t *testing.T, r *replica.Replica, cart, sku string, qty int, clears bool) api.Event {
	t.Helper()
	e, err := r.Update(cart, sku, qty, clears)
	if err != api.OK {
		t.Fatalf("Update(%q, %q, %d, %v): %d", cart, sku, qty, clears, err)
	}
	return e
}

// take takes e, by which just those must be applied.
func take(t *testing.T, r *replica.Replica, e api.Event, wanted ...api.Event) {
	t.Helper()
	got, err := r.Take(e)
	if err != api.OK || !slices.EqualFunc(got, wanted, sameEvent) {
		t.Fatalf("Take(%v): %v, %d, not %v", e, got, err, wanted)
	}
}

func learn(t *testing.T, r *replica.Replica, seals ...api.Seal) {
	t.Helper()
	for _, s := range seals {
		if err := r.Learn(s); err != api.OK {
			t.Fatalf("Learn(%v): %d", s, err)
		}
	}
}

// wantLines looks whether l is just those: an article, how many, and so on.
func wantLines(t *testing.T, what string, l []api.Line, wanted ...any) {
	t.Helper()
	var lines []api.Line
	for pair := range slices.Chunk(wanted, 2) {
		lines = append(lines, api.Line{Sku: pair[0].(string), Qty: pair[1].(int)})
	}
	if !slices.Equal(l, lines) {
		t.Errorf("%s: %v, not %v", what, l, lines)
	}
}

// unchanged does what must be refused, and looks whether r is as it was.
func unchanged(t *testing.T, r *replica.Replica, do func()) {
	t.Helper()
	saved, waiting, node := r.Save(), r.Log.Waiting(), r.Node()
	do()
	if r.Save() != saved || !slices.Equal(r.Log.Waiting(), waiting) || r.Node() != node {
		t.Errorf("what was refused changed the replica: %v, %v", r.Applied(), r.Log.Waiting())
	}
}

func wrongNodes() []int {
	return []int{-1, 7, 8, math.MinInt, math.MaxInt}
}

func wrongNames() []string {
	return []string{"", "A", "a b", "é", "_", "a\x00", strings.Repeat("x", 33), strings.Repeat("x", 1000)}
}

func TestNew(t *testing.T) {
	for node := range api.MaxNodes {
		r := made(t, node)
		if r.Node() != node || len(r.Applied()) != 0 || len(r.Seals()) != 0 || r.Waiting() != 0 || len(r.After(nil, 9)) != 0 {
			t.Errorf("New(%d) has something", node)
		}
		if r == made(t, node) {
			t.Error("New answers one replica twice")
		}
	}
	for _, node := range wrongNodes() {
		if r, err := replica.New(node); r != nil || err != api.ErrArg {
			t.Errorf("New(%d): %v, %d", node, r, err)
		}
	}
}

func TestExample(t *testing.T) {
	r := made(t, 1)
	e := update(t, r, "c", "tea", 2, false)
	wanted := api.Event{Dot: api.Dot{Origin: 1, Seq: 1}, Cart: "c", Sku: "tea", Qty: 2}
	if !sameEvent(e, wanted) {
		t.Errorf("%v, not %v", e, wanted)
	}
	wantLines(t, "Read", r.Read("c"), "tea", 2)
}

// An update tells what is applied, how often its node did so, and its cart's epoch; and all that it was handed.
func TestUpdateTells(t *testing.T) {
	r := made(t, 2)
	take(t, r, event(0, 1), event(0, 1))
	learn(t, r, seal("t", "d", 0), seal("u", "d", 1), seal("v", "c", 0, 1))
	take(t, r, event(4, 2, 0, 0, 0, 0, 1)) // it waits, and is not applied
	for at, wanted := range []api.Event{
		{Dot: api.Dot{Origin: 2, Seq: 1}, Deps: []int{1}, Cart: "c", Epoch: 1, Sku: "tea", Qty: 0, Clears: true},
		{Dot: api.Dot{Origin: 2, Seq: 2}, Deps: []int{1, 0, 1}, Cart: "d", Epoch: 2, Sku: "tea", Qty: 1000},
		{Dot: api.Dot{Origin: 2, Seq: 3}, Deps: []int{1, 0, 2}, Cart: strings.Repeat("x", 32), Epoch: 0, Sku: strings.Repeat("-", 32), Qty: 999, Clears: true},
	} {
		e := update(t, r, wanted.Cart, wanted.Sku, wanted.Qty, wanted.Clears)
		if !sameEvent(e, wanted) {
			t.Errorf("update %d: %v, not %v", at, e, wanted)
		}
		if kept, is := r.Get(e.Dot); !sameEvent(kept, wanted) || !is {
			t.Errorf("update %d is applied as %v, %v", at, kept, is)
		}
	}
	if v := r.Applied(); !slices.Equal(v, []int{1, 0, 3}) {
		t.Error("Applied:", v)
	}
}

func TestWrongUpdates(t *testing.T) {
	r := made(t, 0)
	update(t, r, "c", "tea", 1, false)
	refuse := func(cart, sku string, qty int) {
		t.Helper()
		unchanged(t, r, func() {
			for _, clears := range []bool{false, true} {
				if e, err := r.Update(cart, sku, qty, clears); !reflect.DeepEqual(e, api.Event{}) || err != api.ErrArg {
					t.Errorf("Update(%q, %q, %d, %v): %v, %d", cart, sku, qty, clears, e, err)
				}
			}
		})
	}
	for _, name := range wrongNames() {
		refuse(name, "tea", 1)
		refuse("c", name, 1)
		refuse(name, name, -1)
	}
	for _, qty := range []int{-1, 1001, math.MinInt, math.MaxInt} {
		refuse("c", "tea", qty)
	}
	if e := update(t, r, "c", "tea", 1, false); e.Dot.Seq != 2 {
		t.Error("the next one is", e)
	}
}

// What waits for an own update is applied by it, behind it, and not told.
func TestUpdateOfWhatIsWaitedFor(t *testing.T) {
	r := made(t, 1)
	clearing := event(0, 1, 0, 1)
	clearing.Clears, clearing.Qty = true, 5
	take(t, r, clearing)
	take(t, r, event(0, 2, 1, 1))
	if e := update(t, r, "c", "tea", 3, false); !sameEvent(e, api.Event{Dot: api.Dot{Origin: 1, Seq: 1}, Cart: "c", Sku: "tea", Qty: 3}) {
		t.Error("Update:", e)
	}
	if v := r.Applied(); !slices.Equal(v, []int{2, 1}) || r.Waiting() != 0 {
		t.Error("Applied:", v, r.Waiting())
	}
	wantLines(t, "Read: it was cleared by one that waited", r.Read("c"), "tea", 6)
	if e := update(t, r, "c", "tea", 1, false); !slices.Equal(e.Deps, []int{2, 1}) {
		t.Error("the next one's Deps:", e.Deps)
	}
}

func TestTake(t *testing.T) {
	r := made(t, 1)
	take(t, r, event(0, 2, 1))
	take(t, r, event(2, 1, 2))
	if r.Waiting() != 2 || len(r.Applied()) != 0 {
		t.Error("two wait:", r.Waiting(), r.Applied())
	}
	take(t, r, event(0, 1), event(0, 1), event(0, 2, 1), event(2, 1, 2))
	if v := r.Applied(); r.Waiting() != 0 || !slices.Equal(v, []int{2, 0, 1}) {
		t.Error("all are applied:", r.Waiting(), v)
	}
	take(t, r, event(6, 2, 0, 0, 0, 0, 0, 0, 1))
	for _, e := range []api.Event{event(0, 1), event(0, 2, 1), event(2, 1), event(6, 2, 9, 0, 0, 0, 0, 0, 1)} {
		unchanged(t, r, func() {
			if got, err := r.Take(e); len(got) != 0 || err != api.ErrTwice {
				t.Errorf("Take(%v) again: %v, %d", e, got, err)
			}
		})
	}
}

// A node's own events are made by it alone, and events that may not be are refused.
func TestWrongTakes(t *testing.T) {
	for node := range api.MaxNodes {
		r := made(t, node)
		own := update(t, r, "c", "tea", 1, false)
		other := event(node, 2, make([]int, node+1)...)
		other.Deps[node] = 1
		wrong := []api.Event{own, other, event(node, 1), event(node, 0), {}, event(-1, 1), event(7, 1), event(math.MaxInt, 1), event(math.MinInt, 1),
			event((node+1)%7, 0), event((node+1)%7, 2), event((node+1)%7, -1), event((node+1)%7, 1, 0), event((node+1)%7, 1, 1, 1, 1, 1, 1, 1, 1, 1)}
		for _, name := range wrongNames() {
			cart, sku := event((node+1)%7, 1), event((node+1)%7, 1)
			cart.Cart, sku.Sku = name, name
			wrong = append(wrong, cart, sku)
		}
		for _, n := range []int{-1, math.MinInt, math.MaxInt} {
			qty, epoch := event((node+1)%7, 1), event((node+1)%7, 1)
			qty.Qty, epoch.Epoch = n, n
			wrong = append(wrong, qty, epoch)
		}
		more := event((node+1)%7, 1)
		more.Qty = api.MaxQty + 1
		for _, e := range append(wrong, more) {
			unchanged(t, r, func() {
				if got, err := r.Take(e); len(got) != 0 || err != api.ErrEvent {
					t.Errorf("node %d: Take(%v): %v, %d", node, e, got, err)
				}
			})
		}
	}
}

func TestLearn(t *testing.T) {
	r := made(t, 3)
	seals := []api.Seal{
		seal("t", "c", 0, 1), seal("u", "d", 0), seal("t", "c", 1, 0, 0, 7), seal("w", "c", 2, 1, 1, 1, 1, 1, 1, api.MaxSeq),
		seal(strings.Repeat("t", 32), strings.Repeat("c", 32), 0, 1), seal("u", "d", 1),
	}
	for at, s := range seals {
		learn(t, r, s)
		if got := r.Seals(); !slices.EqualFunc(got, seals[:at+1], sameSeal) {
			t.Fatalf("Seals: %v, not %v", got, seals[:at+1])
		}
	}
	for cart, epoch := range map[string]int{"c": 3, "d": 2, strings.Repeat("c", 32): 1, "e": 0, "": 0, "C": 0} {
		if got := r.Epoch(cart); got != epoch {
			t.Errorf("Epoch(%q): %d, not %d", cart, got, epoch)
		}
	}
}

func TestWrongSeals(t *testing.T) {
	r := made(t, 3)
	learn(t, r, seal("t", "c", 0, 1), seal("u", "c", 1), seal("v", "d", 0))
	wrong := []api.Seal{
		{}, seal("w", "c", 0), seal("w", "c", 1), seal("w", "c", 3), seal("t", "c", 0, 1), seal("w", "d", 0), seal("w", "d", 2), seal("w", "e", 1),
		seal("w", "c", -1), seal("w", "e", math.MinInt), seal("w", "c", math.MaxInt), seal("w", "c", 2, 0), seal("w", "c", 2, 1, 0),
		seal("w", "c", 2, -1), seal("w", "c", 2, api.MaxSeq+1), seal("w", "c", 2, 1, 1, 1, 1, 1, 1, 1, 1),
	}
	for _, name := range wrongNames() {
		wrong = append(wrong, seal(name, "c", 2), seal("w", name, 0), seal(name, name, 0))
	}
	for _, s := range wrong {
		unchanged(t, r, func() {
			if err := r.Learn(s); err != api.ErrSeal {
				t.Errorf("Learn(%v): %d", s, err)
			}
		})
	}
	learn(t, r, seal("w", "c", 2), seal("w", "d", 1), seal("w", "e", 0))
}

// A Fork goes its own way, and so does what it came from.
func TestFork(t *testing.T) {
	r := made(t, 1)
	update(t, r, "c", "tea", 1, false)
	take(t, r, event(0, 2, 1))
	learn(t, r, seal("t", "c", 0, 0, 1), seal("u", "d", 0), seal("v", "e", 0))
	fork := r.Fork()
	if fork == r || fork.Node() != 1 || fork.Save() != r.Save() || fork.Waiting() != 1 || fork.Epoch("c") != 1 {
		t.Fatal("Fork:", fork.Node(), fork.Applied(), fork.Seals(), fork.Waiting())
	}
	saved := r.Save()
	update(t, fork, "c", "jam", 2, false)
	take(t, fork, event(0, 1), event(0, 1), event(0, 2, 1))
	learn(t, fork, seal("w", "c", 1), seal("w", "f", 0))
	if r.Save() != saved || r.Waiting() != 1 || r.Epoch("c") != 1 || r.Epoch("f") != 0 {
		t.Error("what a fork does is seen where it came from:", r.Applied(), r.Seals(), r.Waiting())
	}
	forked := fork.Save()
	other := event(0, 1, 0, 1)
	take(t, r, other, other, event(0, 2, 1))
	learn(t, r, seal("x", "c", 1), seal("x", "c", 2))
	update(t, r, "c", "milk", 3, true)
	if fork.Save() != forked || fork.Waiting() != 0 || fork.Epoch("c") != 2 {
		t.Error("a fork sees what is done where it came from:", fork.Applied(), fork.Seals(), fork.Waiting())
	}
}

// However many seals there are, those that a fork learns are not those of where it came from.
func TestForkOfSeals(t *testing.T) {
	r := made(t, 1)
	for epoch := range 20 {
		fork := r.Fork()
		learn(t, fork, seal("fork", "c", epoch))
		learn(t, r, seal("r", "c", epoch))
		if a, b := fork.Seals()[epoch], r.Seals()[epoch]; a.Token != "fork" || b.Token != "r" {
			t.Fatal("the last seals:", a, b)
		}
	}
}

// Of a replica that no call made.
func TestNil(t *testing.T) {
	for _, r := range []*replica.Replica{nil, {}} {
		for _, name := range []string{"c", ""} {
			if e, err := r.Update(name, "tea", 1, false); !reflect.DeepEqual(e, api.Event{}) || err != api.ErrClosed {
				t.Error("Update:", e, err)
			}
			if l, whole := r.Order(name, 0); len(l) != 0 || whole {
				t.Error("Order:", l, whole)
			}
			if r.Epoch(name) != 0 || len(r.Read(name)) != 0 {
				t.Error("Epoch, Read:", r.Epoch(name), r.Read(name))
			}
		}
		for _, e := range []api.Event{event(0, 1), event(1, 1), event(0, 0)} {
			if got, err := r.Take(e); len(got) != 0 || err != api.ErrClosed {
				t.Error("Take:", got, err)
			}
		}
		for _, s := range []api.Seal{seal("t", "c", 0), {}} {
			if err := r.Learn(s); err != api.ErrClosed {
				t.Error("Learn:", err)
			}
		}
		if r.Node() != 0 || len(r.Applied()) != 0 || len(r.Seals()) != 0 || r.Waiting() != 0 || len(r.After(nil, 5)) != 0 || r.Save() != "" || r.Fork() != nil {
			t.Error("of a nil replica:", r.Node(), r.Applied(), r.Seals(), r.Waiting(), r.After(nil, 5), r.Save(), r.Fork())
		}
	}
}

// What is handed in is neither changed nor kept, and what is answered is nobody else's.
func TestNothingIsShared(t *testing.T) {
	r := made(t, 1)
	take(t, r, event(0, 1), event(0, 1))
	room := []int{1, 8, 9}
	e := event(2, 1, room[:1]...)
	take(t, r, e, e)
	s := seal("t", "c", 0, 1, 0, 1)
	learn(t, r, s)
	own := update(t, r, "c", "tea", 1, false)
	if !slices.Equal(room, []int{1, 8, 9}) {
		t.Error("room behind a list's end:", room)
	}
	saved := r.Save()
	scribble := func(v []int) {
		for i := range v {
			v[i] = 9
		}
		_ = append(v, 4, 4)
	}
	for range 2 {
		for _, v := range [][]int{e.Deps, s.Cut, own.Deps, r.Applied(), r.Seals()[0].Cut, r.After(nil, 9)[1].Deps, r.After(nil, 9)[2].Deps} {
			scribble(v)
		}
		lines, _ := r.Order("c", 0)
		lines[0].Qty = 77
		r.Read("c")[0].Qty = 77
		seals := r.Seals()
		seals[0] = api.Seal{}
		_ = append(seals, api.Seal{})
	}
	if r.Save() != saved {
		t.Error("what was handed in, or answered, is kept:", r.Applied(), r.Seals())
	}
	lines, whole := r.Order("c", 0)
	wantLines(t, "Order", lines, "tea", 2)
	wantLines(t, "Read", r.Read("c"), "tea", 1)
	if !whole {
		t.Error("Order is not whole")
	}
}

// What Take answers is not kept, nor shared with what it was handed.
func TestTakenIsNew(t *testing.T) {
	r := made(t, 1)
	take(t, r, event(0, 1), event(0, 1))
	e := event(0, 2, 1)
	got, _ := r.Take(e)
	got[0].Deps[0] = 9
	if e.Deps[0] != 1 || r.After([]int{1}, 1)[0].Deps[0] != 1 {
		t.Error("Take answers a list that is not new")
	}
}
